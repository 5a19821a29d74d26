/-
  Contracts of slices.Grow of nothing and slices.Concat of two at numbers of 32 bits, of maps.Clone, of an allocation's Free and Taken: each with its conditions in its own statement.
-/
import Derived.Test.YtofbglgdmabafaaJ22
import Derived.Test.YtofbglgdmabafaaJ33
import Derived.Test.YtofbglgdmabafaaJ11
import Derived.Lib.AppendZeros
namespace Go.Proofs.Ytofbglgdmabafaa
open Go.RowKit
open Go.Lib hiding intOf
open Go.Maps (Keyed IsMap Tidy)
set_option linter.unusedVariables false
set_option linter.unusedSimpArgs false
attribute [local go_sem ↓] Go.wp_at_zero Go.wp_at_succ

set_option maxRecDepth 100000 in
theorem ugrow_any (n : Nat) (w : World) (hn : n ≤ 4398046511104) :
    Calls Try.prog 60 #[.slice none 0 0, .int .i64 n] w fun e w' => ∃ A c, e = .returned (.slice A 0 c) ∧ w'.ownsRow w.heap.size 27 1 (.slice A 0 c) 0 [] ∧ Below w.heap.size w w' := by
  obtain ⟨i0, hi0, hz0, hz1, hz2⟩ := info_parts infoU32b
  rcases Nat.eq_zero_or_pos n with h0 | h0
  · subst h0
    clear hn
    go_enter Try.func60, Try.ntmps60
    go_wp2_with fail
    go_ret
    exact ⟨none, 0, rfl, World.ownsRow_nil _ _ _ _, Below.refl _ _⟩
  · obtain ⟨G, hG⟩ : ∃ G, G = grownCap w n 0 27 := ⟨_, rfl⟩
    have hG1 : n ≤ G := by rw [hG]; exact grownCap_ge w _ _ _
    have hG2 : G ≤ maxLen := by rw [hG]; exact grownCap_le_maxLen w _ _ _ (by unfold maxLen; omega)
    have hr := fun ty => Lib.run_append_nil_zeros (P := Try.prog) w 28 3 ty 27 i0 _ .i64 .i64 Try.underlying28 Try.underlying3 hi0 hz0 n h0 (by omega) (by omega) (by rw [hz2]; omega)
    rw [← hG] at hr
    obtain ⟨cs, hcs⟩ : ∃ cs, cs = Builtin.zeroCells (Value.int .u32 0).cells n ++ Builtin.zeroCells (Value.int .u32 0).cells (G - n) := ⟨_, rfl⟩
    have hcz : cs.size = G := by rw [hcs, Array.size_append, zeroU_size, zeroU_size]; omega
    rw [← hcs] at hr
    have hn0 : (0 : Int) < (n : Int) := by omega
    have hgi : (0 : Int) ≤ (G : Int) := by omega
    have F := Lib.hid (And.intro hG1 (And.intro hG2 hcz))
    have HR := Lib.hid hr
    clear hG hcs hG1 hG2 hcz hr
    go_enter Try.func60, Try.ntmps60
    go_wp2_with (at_builtin; refine Lib.wpList_append_run _ rfl _ _ _ _ rfl _ _ rfl rfl _ _ (HR.out _) ?_)
    go_ret
    refine ⟨some ⟨w.heap.size, 0, none⟩, G, rfl, ⟨rfl, .inr ⟨w.heap.size, G, cs, rfl, Nat.le_refl _, heap_alloc_new w.drew _, Nat.zero_le _, F.out.2.1, by rw [F.out.2.2]; omega, rfl⟩⟩, ((Below.refl _ _).drew).alloc (Nat.le_refl _) _⟩
def parts2 (l1 l2 : List Nat) (k : Nat) : List Nat := if k = 0 then [] else if k = 1 then l1 else l1 ++ l2
set_option maxRecDepth 100000 in
set_option maxHeartbeats 1600000 in
theorem uconcat_any {w : World} {vb : Nat} {A1 A2 : Option Addr} {n1 c1 n2 c2 B1 B2 : Nat} {l1 l2 : List Nat} (hv : Blk w vb 28 #[.slice A1 n1 c1, .slice A2 n2 c2]) (h1 : Reads w B1 1 A1 n1 (ucells l1)) (h2 : Reads w B2 1 A2 n2 (ucells l2)) (hB1 : B1 ≤ w.heap.size) (hB2 : B2 ≤ w.heap.size) (hn1 : n1 ≤ 4194304) (hn2 : n2 ≤ 4194304) :
    Calls Try.prog 40 #[.slice (some ⟨vb, 0, none⟩) 2 2] w fun e w' => ∃ A c, e = .returned (.slice A (n1 + n2) c) ∧ w'.ownsRow w.heap.size 27 1 (.slice A (n1 + n2) c) (n1 + n2) (ucells (l1 ++ l2)) ∧ Below w.heap.size w w' := by
  obtain ⟨i0, hi0, hz0, hz1, hz2⟩ := info_parts infoU32b
  have q0 : w.cell? ⟨vb, 0, none⟩ = some (.slice A1 n1 c1) := hv.cell 0
  have q1 : w.cell? ⟨vb, 1, none⟩ = some (.slice A2 n2 c2) := hv.cell 1
  have HV := Lib.hid hv
  have HR1 := Lib.hid (h1.more hB1)
  have HR2 := Lib.hid (h2.more hB2)
  have hvl := hv.lt
  clear h1 h2 hv hB1 hB2
  go_enter Try.func40, Try.ntmps40
  go_wp2_with fail
  go_loop [3, 11] (fun s3 s11 => ∃ k : Nat, k ≤ 2 ∧ s11 = .int .i64 k ∧ s3 = .int .i64 ((if k = 0 then 0 else if k = 1 then n1 else n1 + n2 : Nat) : Int)) (fun _ s11 => 2 - (intOf s11).toNat)
  case atStart => exact ⟨0, by omega, rfl, rfl⟩
  case round =>
    obtain ⟨k, hk, rfl, rfl⟩ := hrel
    obtain rfl | rfl | rfl : k = 0 ∨ k = 1 ∨ k = 2 := by omega
    · simp only [if_pos]
      go_wp2_with fail
      go_round
      case rel => exact ⟨1, by omega, by go_num, by simp⟩
      case measure => simp [intOf]
    · simp only [if_pos, if_neg (show ¬ (1 = 0) by omega)]
      go_wp2_with fail
      go_round
      case rel => exact ⟨2, by omega, by go_num, by simp⟩
      case measure => simp [intOf]
    · simp only [if_neg (show ¬ (2 = 0) by omega), if_neg (show ¬ (2 = 1) by omega)]
      go_wp2_with (go_at_call 60; refine (ugrow_any (n1 + n2) _ (by omega)).mono ?_; rintro e wg ⟨A, c, rfl, hown, hB⟩)
      have hbl := hB.block vb hvl
      have g0 : wg.cell? ⟨vb, 0, none⟩ = some (.slice A1 n1 c1) := (HV.out.below hB hvl).cell 0
      have g1 : wg.cell? ⟨vb, 1, none⟩ = some (.slice A2 n2 c2) := (HV.out.below hB hvl).cell 1
      go_loopw [6, 27] (fun s6 s27 wr => ∃ (k m : Nat) (A : Option Addr) (c : Nat), k ≤ 2 ∧ s27 = .int .i64 k ∧ s6 = .slice A m c ∧ wr.ownsRow w.heap.size 27 1 (.slice A m c) m (ucells (parts2 l1 l2 k)) ∧ Below w.heap.size w wr) (fun _ s27 _ => 2 - (intOf s27).toNat)
      case atStart => exact ⟨0, 0, A, c, by omega, rfl, rfl, hown, hB⟩
      case round =>
        obtain ⟨k, m, A, c, hk, rfl, rfl, hown2, hBW⟩ := hrel
        have g0 : wr.cell? ⟨vb, 0, none⟩ = some (.slice A1 n1 c1) := (HV.out.below hBW hvl).cell 0
        have g1 : wr.cell? ⟨vb, 1, none⟩ = some (.slice A2 n2 c2) := (HV.out.below hBW hvl).cell 1
        have hm : m = (parts2 l1 l2 k).length := by have := hown2.1; rw [ucells_length] at this; omega
        have hl1 := ulen HR1.out
        have hl2 := ulen HR2.out
        have HBW := Lib.hid hBW
        clear hBW hown
        obtain rfl | rfl | rfl : k = 0 ∨ k = 1 ∨ k = 2 := by omega
        · have HO : Hid (wr.ownsRow w.heap.size 27 1 (.slice A m c) m (ucells [])) := Lib.hid hown2
          have HM := Lib.hid (show m = 0 from hm)
          clear hm hown2 hl1 hl2
          go_wp2_with (at_builtin; refine wpList_append_any _ rfl (.tmp 31) (.tmp 32) _ rfl w.heap.size 27 i0 _ 1 4 Try.underlying28 hi0 hz0 hz1 hz2 rfl (by omega) _ m (ucells []) rfl HO.out _ A1 n1 c1 (ucells l1) rfl (HR1.out.below HBW.out) (ucells_one _) (by unfold maxLen; have := HM.out; omega) (by have := HM.out; omega) HBW.out.size ?_; intro v2 w2 hown2 hg2 hat2; have HO2 := Lib.hid hown2; have HG2 := Lib.hid hg2; obtain ⟨Av, cv, rfl, _⟩ := own_form hown2; clear hown2 hg2 hat2)
          go_roundw
          case rel => exact ⟨1, m + n1, Av, cv, by omega, by go_num, rfl, by have h5 := HO2.out; rw [← ucells_append] at h5; exact h5, HBW.out.grown HG2.out (HBW.out.size) (fun k e => (HO.out.lt k e).1)⟩
          case measure => simp [intOf]
        · have HO : Hid (wr.ownsRow w.heap.size 27 1 (.slice A m c) m (ucells l1)) := Lib.hid hown2
          have HM := Lib.hid (show m = n1 from by rw [hm, ← hl1]; rfl)
          clear hm hown2 hl1 hl2
          go_wp2_with (at_builtin; refine wpList_append_any _ rfl (.tmp 31) (.tmp 32) _ rfl w.heap.size 27 i0 _ 1 4 Try.underlying28 hi0 hz0 hz1 hz2 rfl (by omega) _ m (ucells l1) rfl HO.out _ A2 n2 c2 (ucells l2) rfl (HR2.out.below HBW.out) (ucells_one _) (by unfold maxLen; have := HM.out; omega) (by have := HM.out; omega) HBW.out.size ?_; intro v2 w2 hown2 hg2 hat2; have HO2 := Lib.hid hown2; have HG2 := Lib.hid hg2; obtain ⟨Av, cv, rfl, _⟩ := own_form hown2; clear hown2 hg2 hat2)
          go_roundw
          case rel => exact ⟨2, m + n2, Av, cv, by omega, by go_num, rfl, by have h5 := HO2.out; rw [← ucells_append] at h5; exact h5, HBW.out.grown HG2.out (HBW.out.size) (fun k e => (HO.out.lt k e).1)⟩
          case measure => simp [intOf]
        · have HO : Hid (wr.ownsRow w.heap.size 27 1 (.slice A m c) m (ucells (l1 ++ l2))) := Lib.hid hown2
          obtain rfl : m = n1 + n2 := by rw [hm, ← hl1, ← hl2]; simp [parts2]
          clear hm hown2 hl1 hl2
          go_wp2_with fail
          go_ret
          exact ⟨A, c, rfl, HO.out, HBW.out⟩
end Go.Proofs.Ytofbglgdmabafaa

