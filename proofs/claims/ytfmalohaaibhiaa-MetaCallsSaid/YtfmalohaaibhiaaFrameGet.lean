/-
  Contracts of package frame's Get: an error of the reader is its result, with no page; else the page is.
-/
import Derived.Test.YtfmalohaaibhiaaFrameReadNo
import Derived.Tactics2
import Derived.Defers
import Derived.Recover
namespace Go.Proofs.Ytfmalohaaibhiaa
open Go.RowKit
open Go.Lib
set_option linter.unusedVariables false
set_option linter.unusedSimpArgs false
attribute [local go_sem ↓] Go.wp_at_zero Go.wp_at_succ

/-- Two named results in variables: a struct of one block's cells, and one cell. -/
theorem results_row_cell {P : Program} {fn : Func} {p q : Tmp} {ty tq : TypeId} (h : fn.results = #[.cell p ty, .cell q tq]) (tmps : Array Value) (w : World) (g g' : Nat) (t : TypeId) (cs : Array Value) (fr : Nat × Nat) (d : TypeDesc) (v : Value)
    (hp : tmps.getD p undef = .pointer (some ⟨g, 0, none⟩)) (hq : tmps.getD q undef = .pointer (some ⟨g', 0, none⟩)) (hg : w.heap[g]? = some (.cells cs t fr))
    (hu : P.underlying ty = some d) (hd : (match d with | .struct _ | .array _ _ => true | _ => false) = true) (hi : (P.info? ty).map (·.size) = some cs.size) (hv : (loadVar tq ⟨g', 0, none⟩).run P w = .ok v w) :
    (results fn tmps).run P w = .ok (.tuple #[.agg cs, v]) w := by
  have hp' : tmps[p]?.getD undef = .pointer (some ⟨g, 0, none⟩) := by simpa using hp
  have hq' : tmps[q]?.getD undef = .pointer (some ⟨g', 0, none⟩) := by simpa using hq
  simp [results, h, hp', hq', asAddr, run_loadVar_row w g t ty cs fr d hg hu hd hi, hv]
theorem load_errno (w : World) (g : Nat) (n : Int) (h : w.cell? ⟨g, 0, none⟩ = some (.int .i64 n)) : (loadVar 27 ⟨g, 0, none⟩).run Try.prog w = .ok (.int .i64 n) w := by
  simp [go_sem, h]

set_option maxHeartbeats 3200000 in
theorem get_dies (size : Int) (s : ByteArray) (n : Nat) (err : Int) (w : World)
    (hp : ∀ w : World, Calls Try.prog 63 #[.agg #[.int .i64 size, .string s], .int .u32 n] w fun e w' => Dies e err ∧ Below w.heap.size w w') :
    Calls Try.prog 58 #[.int .i64 size, .int .u32 n, .string s] w fun e w' => e = .returned (.tuple #[.agg #[.int .i64 0, .int .i64 0, .int .u32 0, .int .u32 0, .int .u64 0, .string ByteArray.empty], .int .i64 err]) ∧ Below w.heap.size w w' := by
  have hmf : ∀ (fn : Fn) (first cap : Array Value) (w : World), (Instr.makeFunc fn first cap).run Try.prog w = .ok (.func fn first cap) w := fun _ _ _ _ => rfl
  obtain ⟨hz, hi⟩ := zero_of_info infoPg
  have HI := Lib.hid hi
  clear hi
  obtain ⟨w0, hw0⟩ : ∃ w0, w0 = ((w.alloc (.cells #[.int .i64 0, .int .i64 0, .int .u32 0, .int .u32 0, .int .u64 0, .string ByteArray.empty] 26)).alloc (.cells #[.int .i64 0] 27)).alloc (.cells #[.int .i64 size, .string s] 91) := ⟨_, rfl⟩
  have r0 : Blk w0 w.heap.size 26 #[.int .i64 0, .int .i64 0, .int .u32 0, .int .u32 0, .int .u64 0, .string ByteArray.empty] := by rw [hw0]; exact ((Blk.new _ _ _).alloc _).alloc _
  have e0 : Blk w0 (w.heap.size + 1) 27 #[.int .i64 0] := by
    rw [hw0]
    have := (Blk.new (w.alloc (.cells #[.int .i64 0, .int .i64 0, .int .u32 0, .int .u32 0, .int .u64 0, .string ByteArray.empty] 26)) 27 #[.int .i64 0]).alloc (.cells #[.int .i64 size, .string s] 91)
    simpa using this
  have hb0 : Below w.heap.size w w0 := by rw [hw0]; exact (((Below.refl _ _).alloc (Nat.le_refl _) _).alloc (by simp) _).alloc (by simp; omega) _
  have R0 := Lib.hid r0
  have E0 := Lib.hid e0
  have HB0 := Lib.hid hb0
  clear r0 e0 hb0
  go_enter_defers Try.func58, Try.ntmps58
  go_wp2_with fail
  rw [← hw0]
  clear hw0
  refine (hp _).mono ?_
  rintro e w1 ⟨rfl, hb1⟩
  replace HB0 := Lib.hid (HB0.out.trans (hb1.mono HB0.out.size))
  replace E0 := Lib.hid (E0.out.below hb1 E0.out.lt)
  replace R0 := Lib.hid (R0.out.below hb1 R0.out.lt)
  clear hb1
  refine leaves_cons (f := 62) (args := #[.pointer (some ⟨w.heap.size + 1, 0, none⟩)]) (by simp) (by simp [go_sem]) ?_
  refine (catch_wrong ⟨w.heap.size + 1, 0, none⟩ 0 err [] _ (E0.out.cell 0) (E0.out.frozen 0)).mono ?_
  rintro e u' w'' ⟨rfl, rfl, rfl⟩
  have E1 := Lib.hid (Blk.set_ E0.out 0 (.int .i64 err))
  have R1 := Lib.hid (R0.out.far (p := ⟨w.heap.size + 1, 0, none⟩) (Nat.ne_of_lt (Nat.lt_succ_self _)) (.int .i64 err))
  have HB1 := Lib.hid (HB0.out.setCell (p := ⟨w.heap.size + 1, 0, none⟩) (Nat.le_succ _) (.int .i64 err))
  show Leaves _ _ _ _ [] .returning _
  exact ⟨_, results_row_cell rfl _ _ w.heap.size (w.heap.size + 1) 26 #[.int .i64 0, .int .i64 0, .int .u32 0, .int .u32 0, .int .u64 0, .string ByteArray.empty] (0, 0) _ _ rfl rfl R1.out Try.underlying26 rfl HI.out (load_errno _ _ _ (E1.out.cell 0)), rfl, HB1.out⟩

set_option maxHeartbeats 3200000 in
theorem get_ok_of (size : Int) (s : ByteArray) (n : Nat) (a0 a1 : Int) (a2 a3 a4 : Nat) (a5 : ByteArray) (w : World)
    (hp : ∀ w : World, Calls Try.prog 63 #[.agg #[.int .i64 size, .string s], .int .u32 n] w fun e w' => e = .returned (.agg #[.int .i64 a0, .int .i64 a1, .int .u32 a2, .int .u32 a3, .int .u64 a4, .string a5]) ∧ Below w.heap.size w w') :
    Calls Try.prog 58 #[.int .i64 size, .int .u32 n, .string s] w fun e w' => e = .returned (.tuple #[.agg #[.int .i64 a0, .int .i64 a1, .int .u32 a2, .int .u32 a3, .int .u64 a4, .string a5], .int .i64 0]) ∧ Below w.heap.size w w' := by
  have hmf : ∀ (fn : Fn) (first cap : Array Value) (w : World), (Instr.makeFunc fn first cap).run Try.prog w = .ok (.func fn first cap) w := fun _ _ _ _ => rfl
  obtain ⟨hz, hi⟩ := zero_of_info infoPg
  have HI := Lib.hid hi
  clear hi
  obtain ⟨w0, hw0⟩ : ∃ w0, w0 = ((w.alloc (.cells #[.int .i64 0, .int .i64 0, .int .u32 0, .int .u32 0, .int .u64 0, .string ByteArray.empty] 26)).alloc (.cells #[.int .i64 0] 27)).alloc (.cells #[.int .i64 size, .string s] 91) := ⟨_, rfl⟩
  have r0 : Blk w0 w.heap.size 26 #[.int .i64 0, .int .i64 0, .int .u32 0, .int .u32 0, .int .u64 0, .string ByteArray.empty] := by rw [hw0]; exact ((Blk.new _ _ _).alloc _).alloc _
  have e0 : Blk w0 (w.heap.size + 1) 27 #[.int .i64 0] := by
    rw [hw0]
    have := (Blk.new (w.alloc (.cells #[.int .i64 0, .int .i64 0, .int .u32 0, .int .u32 0, .int .u64 0, .string ByteArray.empty] 26)) 27 #[.int .i64 0]).alloc (.cells #[.int .i64 size, .string s] 91)
    simpa using this
  have hb0 : Below w.heap.size w w0 := by rw [hw0]; exact (((Below.refl _ _).alloc (Nat.le_refl _) _).alloc (by simp) _).alloc (by simp; omega) _
  have R0 := Lib.hid r0
  have E0 := Lib.hid e0
  have HB0 := Lib.hid hb0
  clear r0 e0 hb0
  go_enter_defers Try.func58, Try.ntmps58
  go_wp2_with fail
  rw [← hw0]
  clear hw0
  refine (hp _).mono ?_
  rintro e w1 ⟨rfl, hb1⟩
  replace HB0 := Lib.hid (HB0.out.trans (hb1.mono HB0.out.size))
  replace E0 := Lib.hid (E0.out.below hb1 E0.out.lt)
  replace R0 := Lib.hid (R0.out.below hb1 R0.out.lt)
  clear hb1
  have E1 := Lib.hid ((six_far (a0 := .int .i64 a0) (a1 := .int .i64 a1) (a2 := .int .u32 a2) (a3 := .int .u32 a3) (a4 := .int .u64 a4) (a5 := .string a5) E0.out (Nat.ne_of_gt (Nat.lt_succ_self w.heap.size))).set_ 0 (.int .i64 0))
  have R1 := Lib.hid ((six_at (a0 := .int .i64 a0) (a1 := .int .i64 a1) (a2 := .int .u32 a2) (a3 := .int .u32 a3) (a4 := .int .u64 a4) (a5 := .string a5) R0.out).far (p := ⟨w.heap.size + 1, 0, none⟩) (Nat.ne_of_lt (Nat.lt_succ_self _)) (.int .i64 0))
  have HB1 := Lib.hid ((six_below (a0 := .int .i64 a0) (a1 := .int .i64 a1) (a2 := .int .u32 a2) (a3 := .int .u32 a3) (a4 := .int .u64 a4) (a5 := .string a5) HB0.out (Nat.le_refl w.heap.size)).setCell (p := ⟨w.heap.size + 1, 0, none⟩) (Nat.le_succ _) (.int .i64 0))
  have k0 := R0.out.cell 0
  have k1 := R0.out.cell 1
  have k2 := R0.out.cell 2
  have k3 := R0.out.cell 3
  have k4 := R0.out.cell 4
  have k5 := R0.out.cell 5
  have ke := E0.out.cell 0
  have f0 := R0.out.frozen 0
  have f1 := R0.out.frozen 1
  have f2 := R0.out.frozen 2
  have f3 := R0.out.frozen 3
  have f4 := R0.out.frozen 4
  have f5 := R0.out.frozen 5
  have fe := E0.out.frozen 0
  simp at k0 k1 k2 k3 k4 k5 ke
  go_wp2_with fail
  refine leaves_cons (f := 62) (args := #[.pointer (some ⟨w.heap.size + 1, 0, none⟩)]) (by simp) (by simp [go_sem]) ?_
  refine (catch_idle ⟨w.heap.size + 1, 0, none⟩ _).mono ?_
  rintro e u' w'' ⟨rfl, rfl, rfl⟩
  show Leaves _ _ _ _ [] .returning _
  exact ⟨_, results_row_cell rfl _ _ w.heap.size (w.heap.size + 1) 26 #[.int .i64 a0, .int .i64 a1, .int .u32 a2, .int .u32 a3, .int .u64 a4, .string a5] (0, 0) _ _ rfl rfl R1.out Try.underlying26 rfl HI.out (load_errno _ _ _ (E1.out.cell 0)), rfl, HB1.out⟩
end Go.Proofs.Ytfmalohaaibhiaa
