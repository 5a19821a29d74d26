/-
  Contracts of a device's Write and Truncate, each with its conditions in its own statement.
-/
import Derived.Test.YtmkejkmgpigmhaaDevMut
import Derived.BigRegion
namespace Go.Proofs.Ytmkejkmgpigmhaa
open Go.RowKit
open Go.Lib hiding intOf
set_option linter.unusedVariables false
set_option linter.unusedSimpArgs false

def wbox (w : World) (n : Nat) (b : ByteArray) : World := (w.alloc (.cells #[.int .u32 n] 30)).alloc (.cells #[.string b] 9)
theorem wbox_below (w : World) (n : Nat) (b : ByteArray) : Below w.heap.size w (wbox w n b) := ((Below.refl _ _).alloc (Nat.le_refl _) _).alloc (by simp) _
theorem wbox_size (w : World) (n : Nat) (b : ByteArray) : (wbox w n b).heap.size = w.heap.size + 2 := by simp [wbox]
theorem wbox_n (w : World) (n : Nat) (b : ByteArray) : Blk (wbox w n b) w.heap.size 30 #[.int .u32 n] := (Blk.new w _ _).alloc _
theorem wbox_b (w : World) (n : Nat) (b : ByteArray) : Blk (wbox w n b) (w.heap.size + 1) 9 #[.string b] := new2 w _ _ _

/-- What Write does that refuses: nothing but memory of its own. -/
def Refused (w w' : World) : Prop := Below w.heap.size w w'

theorem dwrite_arg {w : World} {F : Nat → Prop} {g : Nat} {S : DevS} (h : Dev w F g S) (n : Nat) (b : ByteArray) (hb : b.size ≠ S.size) :
    Calls Try.prog 13 #[.pointer (some ⟨g, 0, none⟩), .int .u32 n, .string b] w fun e w' => e = .returned (.int .i64 2) ∧ Below w.heap.size w w' := by
  have h2 := h.new (wbox_below w n b)
  have hv := dvalid_yes h2
  obtain ⟨m1, m2, A1, n1, c1, A2, n2, c2, A3, n3, c3, X, pc, h3⟩ := h2
  obtain ⟨_, k1, k2, _⟩ := dev_cells h3.blk
  have hbb : ((b.size : Int) != (S.size : Int)) = true := by simp; omega
  have hB := Lib.hid (wbox_below w n b)
  unfold wbox at hv k1 k2
  clear hb
  go_enter Try.func13, Try.ntmps13
  go_wp2_with (go_at_call 36; refine hv.mono ?_; rintro e w' ⟨rfl, rfl⟩)
  go_region
  all_goals (go_wp2_with fail; go_ret)
  all_goals exact ⟨rfl, hB.out.drew⟩
theorem dwrite_full {w : World} {F : Nat → Prop} {g : Nat} {S : DevS} (h : Dev w F g S) (n : Nat) (b : ByteArray) (hb : b.size = S.size) (hn : S.cap ≤ n) :
    Calls Try.prog 13 #[.pointer (some ⟨g, 0, none⟩), .int .u32 n, .string b] w fun e w' => e = .returned (.int .i64 9) ∧ Below w.heap.size w w' := by
  have h2 := h.new (wbox_below w n b)
  have hv := dvalid_yes h2
  obtain ⟨m1, m2, A1, n1, c1, A2, n2, c2, A3, n3, c3, X, pc, h3⟩ := h2
  obtain ⟨_, k1, k2, _⟩ := dev_cells h3.blk
  have hbb : ((b.size : Int) != (S.size : Int)) = false := by simp; omega
  have hcap := h3.capHi
  have wc : IntKind.u32.wrap (S.cap : Int) = (S.cap : Int) := by rw [IntKind.wrap_u32]; omega
  have hB := Lib.hid (wbox_below w n b)
  unfold wbox at hv k1 k2
  clear hb
  go_enter Try.func13, Try.ntmps13
  go_wp2_with (go_at_call 36; refine hv.mono ?_; rintro e w' ⟨rfl, rfl⟩)
  go_region
  all_goals (go_wp2_with fail; go_region)
  all_goals (go_wp2_with fail; go_ret)
  all_goals exact ⟨rfl, hB.out.drew.drew⟩
theorem DevAt.drew {w : World} {F : Nat → Prop} {g : Nat} {S : DevS} (h : Dev w F g S) : Dev w.drew F g S := h.new ((Below.refl _ _).drew)

set_option maxHeartbeats 1600000 in
/-- A page that has the right length, below the capacity: written, or the fuse. -/
theorem dwrite_go {w : World} {F : Nat → Prop} {g : Nat} {S : DevS} (h : Dev w F g S) (n : Nat) (b : ByteArray) (hb : b.size = S.size) (hn : n < S.cap)
    {R : Ending → World → Prop}
    (hno : S.fuse = 0 → ∀ w', Below w.heap.size w w' → R (.returned (.int .i64 8)) w')
    (hyes : S.fuse ≠ 0 → ∀ w', Dev w' (Grow F w w') g { S with img := bWrite S.size n b.data.toList S.img, pend := S.pend ++ [.wr n b], fuse := burn S.fuse, ops := S.ops + 1 } → Kept F w w' → R (.returned (.int .i64 0)) w')
    (hlo : -9223372036854775808 ≤ S.fuse) (hhi : S.fuse ≤ 9223372036854775807) (hops : S.ops ≤ 4294967296) :
    Calls Try.prog 13 #[.pointer (some ⟨g, 0, none⟩), .int .u32 n, .string b] w R := by
  have h2 := h.new (wbox_below w n b)
  have hv := dvalid_yes h2
  have h4 := h2
  obtain ⟨m1, m2, A1, n1, c1, A2, n2, c2, A3, n3, c3, X, pc, h3⟩ := h2
  obtain ⟨_, k1, k2, _⟩ := dev_cells h3.blk
  have hbb : ((b.size : Int) != (S.size : Int)) = false := by simp; omega
  have hcap := h3.capHi
  have hbs : b.size ≤ 281474976710656 := by have := h3.hi; omega
  have ho : (POp.wr n b).ok S.size S.cap := ⟨hn, hb⟩
  have wc : IntKind.u32.wrap (S.cap : Int) = (S.cap : Int) := by rw [IntKind.wrap_u32]; omega
  have hB := Lib.hid (wbox_below w n b)
  have hN := wbox_n w n b
  have hS := wbox_b w n b
  have HNo := Lib.hid hno
  have HYes := Lib.hid hyes
  have HO := Lib.hid ho
  have hsz := wbox_size w n b
  have HSZ := Lib.hid hsz
  unfold wbox at hv k1 k2
  clear hb hno hyes ho hsz
  go_enter Try.func13, Try.ntmps13
  go_wp2_with (go_at_call 36; refine hv.mono ?_; rintro e w' ⟨rfl, rfl⟩)
  go_region
  go_wp2_with fail
  go_region
  go_wp2_with (go_at_call 34
               refine (sclone_any b _ hbs).mono ?_
               rintro e w1 ⟨rfl, hb1⟩
               have hN1 : Blk w1 w.heap.size 30 #[.int .u32 n] := Blk.below (w := (wbox w n b).drew.drew) hN hb1 (by show _ < (wbox w n b).heap.size; rw [HSZ.out]; omega)
               have hS1 : Blk w1 (w.heap.size + 1) 9 #[.string b] := Blk.below (w := (wbox w n b).drew.drew) hS hb1 (by show _ < (wbox w n b).heap.size; rw [HSZ.out]; omega)
               have j0 := hS1.cell 0
               have f0 := hS1.frozen 0
               simp at j0)
  have hb1' : Below (wbox w n b).heap.size (wbox w n b) w1 := ((Below.refl _ _).drew.drew).trans hb1
  have h5 : Dev (w1.setCell ⟨w.heap.size + 1, 0, none⟩ (.string b)) F g S := (h4.new hb1').kept (G := fun k => k = w.heap.size + 1) (Kept.setCell (F := fun k => k = w.heap.size + 1) (Kept.refl _ _) (.inl rfl) _) (by rintro k hk rfl; have := h.lt _ hk; omega)
  have hN2 : Blk (w1.setCell ⟨w.heap.size + 1, 0, none⟩ (.string b)) w.heap.size 30 #[.int .u32 n] := hN1.far (by simp) _
  have hS2 : Blk (w1.setCell ⟨w.heap.size + 1, 0, none⟩ (.string b)) (w.heap.size + 1) 9 #[.string b] := hS1.set_ 0 _
  have hop : IsOp (w1.setCell ⟨w.heap.size + 1, 0, none⟩ (.string b)) (fun k => k = w.heap.size ∨ k = w.heap.size + 1) (.func (.func 38) #[] #[.pointer (some ⟨w.heap.size, 0, none⟩), .pointer (some ⟨w.heap.size + 1, 0, none⟩)]) (.wr n b) := ⟨_, _, rfl, hN2, hS2, .inl rfl, .inr rfl⟩
  have hb2 : Below w.heap.size w (w1.setCell ⟨w.heap.size + 1, 0, none⟩ (.string b)) := (hB.out.trans (hb1'.mono (by rw [HSZ.out]; omega))).setCell (by simp) _
  have hs2 : w.heap.size + 2 ≤ (w1.setCell ⟨w.heap.size + 1, 0, none⟩ (.string b)).heap.size := by have := hb1'.size; rw [HSZ.out] at this; simpa [World.setCell] using this
  have hY : ∀ k, (k = w.heap.size ∨ k = w.heap.size + 1) → k < (w1.setCell ⟨w.heap.size + 1, 0, none⟩ (.string b)).heap.size ∧ ¬ F k := by
    rintro k (rfl | rfl)
    · exact ⟨by omega, fun hf => by have := h.lt _ hf; omega⟩
    · exact ⟨by omega, fun hf => by have := h.lt _ hf; omega⟩
  by_cases hf : S.fuse = 0
  · refine (dchange_no h5 hf _).mono ?_
    rintro e w2 ⟨rfl, rfl⟩
    have HF := Lib.hid hf
    clear hf
    go_wp2_with fail
    exact HNo.out HF.out _ hb2
  · have hc := dchange_yes h5 hf hlo hhi hops HO.out hop hY
    have HF := Lib.hid hf
    clear hf
    refine hc.mono ?_
    rintro e w2 ⟨rfl, hd, hk⟩
    go_wp2_with fail
    have hkk : Kept F w w2 := (Kept.of_new hb2).trans hk
    refine HYes.out HF.out _ (hd.wide ?_ (grow_lt h.lt hkk.size)) hkk
    rintro k ((h1 | ⟨h1, h2⟩) | h1)
    · exact .inl h1
    · exact .inr ⟨by omega, h2⟩
    · have := hk.size
      rcases h1 with rfl | rfl
      · exact .inr ⟨Nat.le_refl _, by omega⟩
      · exact .inr ⟨by omega, by omega⟩
def tbox (w : World) (n : Nat) : World := w.alloc (.cells #[.int .u32 n] 30)
theorem tbox_below (w : World) (n : Nat) : Below w.heap.size w (tbox w n) := (Below.refl _ _).alloc (Nat.le_refl _) _
theorem tbox_size (w : World) (n : Nat) : (tbox w n).heap.size = w.heap.size + 1 := by simp [tbox]
theorem dtrunc_arg {w : World} {F : Nat → Prop} {g : Nat} {S : DevS} (h : Dev w F g S) (n : Nat) (hn : S.cap < n) :
    Calls Try.prog 14 #[.pointer (some ⟨g, 0, none⟩), .int .u32 n] w fun e w' => e = .returned (.int .i64 2) ∧ Below w.heap.size w w' := by
  have h2 := h.new (tbox_below w n)
  have hv := dvalid_yes h2
  obtain ⟨m1, m2, A1, n1, c1, A2, n2, c2, A3, n3, c3, X, pc, h3⟩ := h2
  obtain ⟨_, k1, k2, _⟩ := dev_cells h3.blk
  have hcap := h3.capHi
  have wc : IntKind.u32.wrap (S.cap : Int) = (S.cap : Int) := by rw [IntKind.wrap_u32]; omega
  have hB := Lib.hid (tbox_below w n)
  unfold tbox at hv k1 k2
  go_enter Try.func14, Try.ntmps14
  go_wp2_with (go_at_call 36; refine hv.mono ?_; rintro e w' ⟨rfl, rfl⟩)
  go_region
  all_goals (go_wp2_with fail; go_ret)
  all_goals exact ⟨rfl, hB.out.drew⟩
set_option maxHeartbeats 1600000 in
theorem dtrunc_go {w : World} {F : Nat → Prop} {g : Nat} {S : DevS} (h : Dev w F g S) (n : Nat) (hn : n ≤ S.cap)
    {R : Ending → World → Prop}
    (hno : S.fuse = 0 → ∀ w', Below w.heap.size w w' → R (.returned (.int .i64 8)) w')
    (hyes : S.fuse ≠ 0 → ∀ w', Dev w' (Grow F w w') g { S with img := bCut S.size n S.img, pend := S.pend ++ [.tr n], fuse := burn S.fuse, ops := S.ops + 1 } → Kept F w w' → R (.returned (.int .i64 0)) w')
    (hlo : -9223372036854775808 ≤ S.fuse) (hhi : S.fuse ≤ 9223372036854775807) (hops : S.ops ≤ 4294967296) :
    Calls Try.prog 14 #[.pointer (some ⟨g, 0, none⟩), .int .u32 n] w R := by
  have h2 := h.new (tbox_below w n)
  have hv := dvalid_yes h2
  have h5 := h2.new ((Below.refl _ _).drew)
  obtain ⟨m1, m2, A1, n1, c1, A2, n2, c2, A3, n3, c3, X, pc, h3⟩ := h2
  obtain ⟨_, k1, k2, _⟩ := dev_cells h3.blk
  have hcap := h3.capHi
  have wc : IntKind.u32.wrap (S.cap : Int) = (S.cap : Int) := by rw [IntKind.wrap_u32]; omega
  have hB := Lib.hid (tbox_below w n)
  have hN : Blk (tbox w n).drew w.heap.size 30 #[.int .u32 n] := (Blk.new w _ _).drew
  have HNo := Lib.hid hno
  have HYes := Lib.hid hyes
  have hsz := tbox_size w n
  have HSZ := Lib.hid hsz
  unfold tbox at hv k1 k2
  clear hno hyes hsz
  have hop : IsOp (tbox w n).drew (fun k => k = w.heap.size) (.func (.func 40) #[] #[.pointer (some ⟨w.heap.size, 0, none⟩)]) (.tr n) := ⟨_, rfl, hN, rfl⟩
  have hY : ∀ k, k = w.heap.size → k < (tbox w n).drew.heap.size ∧ ¬ F k := by
    rintro k rfl
    exact ⟨by show _ < (tbox w n).heap.size; rw [HSZ.out]; omega, fun hf => by have := h.lt _ hf; omega⟩
  go_enter Try.func14, Try.ntmps14
  go_wp2_with (go_at_call 36; refine hv.mono ?_; rintro e w' ⟨rfl, rfl⟩)
  go_region
  go_wp2_with fail
  by_cases hf : S.fuse = 0
  · refine (dchange_no h5 hf _).mono ?_
    rintro e w2 ⟨rfl, rfl⟩
    have HF := Lib.hid hf
    clear hf
    go_wp2_with fail
    exact HNo.out HF.out _ hB.out.drew
  · have hc := dchange_yes h5 hf hlo hhi hops (o := .tr n) hn hop hY
    have HF := Lib.hid hf
    clear hf
    refine hc.mono ?_
    rintro e w2 ⟨rfl, hd, hk⟩
    go_wp2_with fail
    have hkk : Kept F w w2 := (Kept.of_new hB.out.drew).trans hk
    refine HYes.out HF.out _ (hd.wide ?_ (grow_lt h.lt hkk.size)) hkk
    have hks : w.heap.size + 1 ≤ w2.heap.size := by have := hk.size; rw [← HSZ.out]; exact this
    rintro k ((h1 | ⟨h1, h2⟩) | h1)
    · exact .inl h1
    · exact .inr ⟨by have : (tbox w n).heap.size ≤ k := h1; rw [HSZ.out] at this; omega, h2⟩
    · subst h1
      exact .inr ⟨Nat.le_refl _, by omega⟩
end Go.Proofs.Ytmkejkmgpigmhaa
