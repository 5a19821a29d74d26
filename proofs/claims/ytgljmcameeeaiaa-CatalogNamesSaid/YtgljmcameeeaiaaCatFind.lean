/-
  Contracts of catalog.Find, and of slices.IndexFunc over buckets with a closure.
-/
import Derived.Test.YtgljmcameeeaiaaBk
import Derived.Test.YtgljmcameeeaiaaRef6Find
import Derived.Deep.DrawnRows
import Derived.Lib.Hide
namespace Go.Proofs.Ytgljmcameeeaiaa
open Go.RowKit
open Go.Lib hiding intOf
set_option linter.unusedVariables false
set_option linter.unusedSimpArgs false
attribute [local go_sem ↓] Go.wp_at_zero Go.wp_at_succ

def foundI (n k : Nat) : Int := if k < n then (k : Int) else -1
set_option maxRecDepth 100000 in
set_option maxHeartbeats 3200000 in
theorem idx_any (p : Bk → Bool) (g : Nat) (lb : Array Value) (eg : ∀ args w, (callFunc g args).run Try.prog w = .ok (.enter g args) w) (A : Option Addr) (n c : Nat) (l : List Bk) (w : World)
    (hr : Reads w w.heap.size 3 A n (bkc l)) (hn : n ≤ maxLen)
    (hp : ∀ (W : World) (x : Bk), Below w.heap.size w W → Calls Try.prog g (#[.agg #[.string x.nm, .int .u32 x.rt, .int .i64 x.ks]] ++ lb) W fun e w' => e = .returned (.bool (p x)) ∧ Below w.heap.size w w') :
    Calls Try.prog 35 #[.slice A n c, .func (.func g) #[] lb] w fun e w' => e = .returned (.int .i64 (foundI n (l.findIdx p))) ∧ Below w.heap.size w w' := by
  have hl := bk_len hr
  have HR := Lib.hid hr
  have HL := Lib.hid hl
  have HP := Lib.hid hp
  unfold maxLen at hn
  clear hr hl hp
  go_enter Try.func35, Try.ntmps35
  go_wp2_with fail
  go_loopw [5, 8] (fun s i wr => ∃ k : Nat, k ≤ n ∧ i = .int .i64 k ∧ Hid (Below w.heap.size w wr) ∧ Hid (∀ j y, j < k → l[j]? = some y → p y = false)) (fun _ i _ => n - (intOf i).toNat)
  case atStart => exact ⟨0, Nat.zero_le _, rfl, Lib.hid (Below.refl _ _), Lib.hid fun j y hj => absurd hj (by omega)⟩
  case round =>
    obtain ⟨k, hk, rfl, HB, HF⟩ := hrel
    by_cases hlt : k < n
    · obtain ⟨ad, x, rfl, _, hp, hx, hc⟩ := bk_at HR.out hlt
      obtain ⟨hc0, hc1, hc2⟩ := hc.below HB.out hp
      have hk0 : (0 : Int) ≤ k := by omega
      have hk1 : (k : Int) < n := by omega
      have HX := Lib.hid hx
      have hcall := HP.out wr x HB.out
      clear hx hc hp
      rcases he : p x with _ | _
      · rw [he] at hcall
        go_wp2_with fail
        refine hcall.mono ?_
        rintro e w' ⟨rfl, hb'⟩
        go_wp2_with fail
        go_roundw
        case rel =>
          have hrel2 : ∀ j y, j < k + 1 → l[j]? = some y → p y = false := fun j y hj hy => by
            by_cases hjk : j < k
            · exact HF.out j y hjk hy
            · obtain rfl : j = k := by omega
              rw [HX.out] at hy
              injection hy with hy
              subst hy
              exact he
          first
            | exact ⟨k + 1, by omega, by go_num, Lib.hid hb', Lib.hid hrel2⟩
            | ((repeat apply Exists.intro); exact ⟨⟨k + 1, by omega, by go_num, Lib.hid hb', Lib.hid hrel2⟩, rfl⟩)
        case measure => simp [intOf]; omega
      · rw [he] at hcall
        go_wp2_with fail
        refine hcall.mono ?_
        rintro e w' ⟨rfl, hb'⟩
        go_wp2_with fail
        go_ret
        refine ⟨?_, hb'⟩
        rw [findIdx_is HX.out he HF.out]
        simp [foundI, hlt]
    · obtain rfl : k = n := by omega
      clear hlt
      go_wp2
      go_ret
      refine ⟨?_, HB.out⟩
      rw [findIdx_none (p := p) (l := l) (by rw [HL.out]; exact HF.out), HL.out]
      simp [foundI]

/-- The closures of Find: over the cell of the name. -/
theorem eq_clo (nm : ByteArray) (b : Nat) (x : Bk) (w : World) (hb : b < w.heap.size) (hc : w.cell? ⟨b, 0, none⟩ = some (.string nm)) :
    Calls Try.prog 36 #[.agg #[.string x.nm, .int .u32 x.rt, .int .i64 x.ks], .pointer (some ⟨b, 0, none⟩)] w fun e w' => e = .returned (.bool (x.nm.toList == nm.toList)) ∧ Below w.heap.size w w' := by
  have hne : ¬ b = w.heap.size := by omega
  go_enter Try.func36, Try.ntmps36
  go_wp2_with fail
  go_ret
  exact ⟨rfl, (Below.refl _ _).alloc (Nat.le_refl _) _⟩
theorem ge_clo (nm : ByteArray) (b : Nat) (x : Bk) (w : World) (hb : b < w.heap.size) (hc : w.cell? ⟨b, 0, none⟩ = some (.string nm)) :
    Calls Try.prog 37 #[.agg #[.string x.nm, .int .u32 x.rt, .int .i64 x.ks], .pointer (some ⟨b, 0, none⟩)] w fun e w' => e = .returned (.bool (!Op.bytesLess x.nm.toList nm.toList)) ∧ Below w.heap.size w w' := by
  have hne : ¬ b = w.heap.size := by omega
  go_enter Try.func37, Try.ntmps37
  go_wp2_with fail
  go_ret
  exact ⟨rfl, (Below.refl _ _).alloc (Nat.le_refl _) _⟩
/-- What the two searches make of Find. -/
theorem foundI_eq (n k : Nat) : foundI n k = if k < n then (k : Int) else -1 := rfl
set_option maxRecDepth 100000 in
set_option maxHeartbeats 3200000 in
theorem cfind_big (A : Option Addr) (n c : Nat) (l : List Bk) (nm : ByteArray) (w : World) (hr : Reads w w.heap.size 3 A n (bkc l)) (hn : n ≤ 4398046511104) :
    Calls Try.prog 14 #[.slice A n c, .string nm] w fun e w' => e = .returned (.tuple #[.int .i64 (fI l nm), .bool (isI l nm)]) ∧ Below w.heap.size w w' := by
  have hmf : ∀ (fn : Fn) (first cap : Array Value) (w : World), (Instr.makeFunc fn first cap).run Try.prog w = .ok (.func fn first cap) w := fun _ _ _ _ => rfl
  have hl := bk_len hr
  have HL := Lib.hid hl
  obtain ⟨w0, hw0⟩ : ∃ x, x = w.alloc (.cells #[.string nm] 9) := ⟨_, rfl⟩
  have HB0 := Lib.hid (show Below w.heap.size w w0 by rw [hw0]; exact (Below.refl _ _).alloc (Nat.le_refl _) _)
  have hlt0 : w.heap.size < w0.heap.size := by rw [hw0]; simp
  have N0 := Lib.hid (show w0.cell? ⟨w.heap.size, 0, none⟩ = some (.string nm) by rw [hw0]; simp)
  have HR := Lib.hid ((hr.below HB0.out).more (Nat.le_of_lt hlt0))
  have eg1 : ∀ args w, (callFunc 36 args).run Try.prog w = .ok (.enter 36 args) w := fun _ _ => by first | rfl | kernel_rfl
  have eg2 : ∀ args w, (callFunc 37 args).run Try.prog w = .ok (.enter 37 args) w := fun _ _ => by first | rfl | kernel_rfl
  have C1 := idx_any (fun b => b.nm.toList == nm.toList) 36 #[.pointer (some ⟨w.heap.size, 0, none⟩)] eg1 A n c l w0 HR.out (by unfold maxLen; omega) (fun W x hb =>
    (eq_clo nm w.heap.size x W (Nat.lt_of_lt_of_le hlt0 hb.size) ((hb.cell (p := ⟨w.heap.size, 0, none⟩) hlt0).trans N0.out)).mono fun e w' ⟨h1, h2⟩ => ⟨h1, hb.trans (h2.mono hb.size)⟩)
  have C2 := fun (W : World) (hW : Below w0.heap.size w0 W) => idx_any (fun b => !Op.bytesLess b.nm.toList nm.toList) 37 #[.pointer (some ⟨w.heap.size, 0, none⟩)] eg2 A n c l W ((HR.out.below hW).more hW.size) (by unfold maxLen; omega) (fun W' x hb =>
    (ge_clo nm w.heap.size x W' (Nat.lt_of_lt_of_le hlt0 (Nat.le_trans hW.size hb.size)) ((hb.cell (p := ⟨w.heap.size, 0, none⟩) (Nat.lt_of_lt_of_le hlt0 hW.size)).trans ((hW.cell (p := ⟨w.heap.size, 0, none⟩) hlt0).trans N0.out))).mono fun e w' ⟨h1, h2⟩ => ⟨h1, hb.trans (h2.mono hb.size)⟩)
  obtain ⟨k1, hk1⟩ : ∃ k, k = l.findIdx (fun b => b.nm.toList == nm.toList) := ⟨_, rfl⟩
  obtain ⟨k2, hk2⟩ : ∃ k, k = l.findIdx (fun b => !Op.bytesLess b.nm.toList nm.toList) := ⟨_, rfl⟩
  rw [← hk1] at C1
  simp only [← hk2] at C2
  have e1 : eqI l nm = k1 := by rw [hk1]; rfl
  have e2 : geI l nm = k2 := by rw [hk2]; rfl
  have h2n : k2 ≤ n := by rw [hk2, ← hl]; exact List.findIdx_le_length
  clear hk1 hk2 hr hl
  by_cases h1 : k1 < n
  · have hF : fI l nm = k1 := by unfold fI; rw [e1, HL.out, if_pos h1]
    have hI : isI l nm = true := by unfold isI; rw [e1, HL.out]; exact decide_eq_true h1
    rw [hF, hI]
    rw [foundI_eq, if_pos h1] at C1
    clear C2 hF hI e1 e2 h2n h1
    go_enter Try.func14, Try.ntmps14
    go_wp2_with fail
    rw [← hw0]
    refine C1.mono ?_
    rintro e w1 ⟨rfl, hb1⟩
    go_wp2_with fail
    go_ret2
    exact ⟨rfl, HB0.out.trans (hb1.mono HB0.out.size)⟩
  · have hF : fI l nm = k2 := by unfold fI; rw [e1, HL.out, if_neg h1, e2]
    have hI : isI l nm = false := by unfold isI; rw [e1, HL.out]; exact decide_eq_false h1
    rw [hF, hI]
    rw [foundI_eq, if_neg h1] at C1
    by_cases h2 : k2 < n
    · simp only [foundI_eq, if_pos h2] at C2
      clear hF hI e1 e2 h2n h1 h2
      go_enter Try.func14, Try.ntmps14
      go_wp2_with fail
      rw [← hw0]
      refine C1.mono ?_
      rintro e w1 ⟨rfl, hb1⟩
      go_wp2_with fail
      refine (C2 _ hb1).mono ?_
      rintro e w2 ⟨rfl, hb2⟩
      go_wp2_with fail
      go_ret2
      exact ⟨rfl, HB0.out.trans ((hb1.trans (hb2.mono hb1.size)).mono HB0.out.size)⟩
    · simp only [foundI_eq, if_neg h2] at C2
      obtain rfl : k2 = n := by omega
      clear hF hI e1 e2 h2n h1 h2
      go_enter Try.func14, Try.ntmps14
      go_wp2_with fail
      rw [← hw0]
      refine C1.mono ?_
      rintro e w1 ⟨rfl, hb1⟩
      go_wp2_with fail
      refine (C2 _ hb1).mono ?_
      rintro e w2 ⟨rfl, hb2⟩
      go_wp2_with fail
      go_ret2
      exact ⟨rfl, HB0.out.trans ((hb1.trans (hb2.mono hb1.size)).mono HB0.out.size)⟩
theorem cfind_any (A : Option Addr) (n c : Nat) (l : List Bk) (nm : ByteArray) (w : World) (hr : Reads w w.heap.size 3 A n (bkc l)) (hn : n ≤ 1000000) :
    Calls Try.prog 14 #[.slice A n c, .string nm] w fun e w' => e = .returned (.tuple #[.int .i64 (fI l nm), .bool (isI l nm)]) ∧ Below w.heap.size w w' := cfind_big A n c l nm w hr (by omega)
end Go.Proofs.Ytgljmcameeeaiaa
