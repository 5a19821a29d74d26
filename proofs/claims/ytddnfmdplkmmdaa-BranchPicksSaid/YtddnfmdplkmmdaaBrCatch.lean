/-
  Contracts of branch.hasHeader, and of the function that branch.Of defers.
-/
import Derived.Test.YtddnfmdplkmmdaaBrForks
import Derived.Test.YtddnfmdplkmmdaaFramePutP
import Derived.Tactics2
import Derived.Defers
import Derived.Recover
import Derived.Laws.Pointers
namespace Go.Proofs.Ytddnfmdplkmmdaa
open Go.RowKit
open Go.Lib hiding intOf
set_option linter.unusedVariables false
set_option linter.unusedSimpArgs false

set_option maxRecDepth 100000 in
set_option maxHeartbeats 6400000 in
theorem bhead_any (kd ct : Int) (pg lk ty : Nat) (bd : ByteArray) (w : World) (hbd : bd.size ≤ 100000) :
    Calls Try.prog 31 #[.agg #[.int .i64 kd, .int .i64 ct, .int .u32 pg, .int .u32 lk, .int .u64 ty, .string bd]] w fun e w' => e = .returned (.bool (headF kd pg lk ty bd)) ∧ Below w.heap.size w w' := by
  have HN := fun w => bnum_any pg w
  obtain ⟨z, hz⟩ : ∃ z : Nat, z = bd.size + 24 := ⟨_, rfl⟩
  have hE : headF kd pg lk ty bd = (decide (kd = 3) && (decide (lk = 0) && (numB pg && (decide (ty ≤ 4611686018427387904) && goodSize ((z : Nat) : Int))))) := by rw [headF, hz]
  have hws : IntKind.i64.wrap ((bd.size : Int) + 24) = (z : Int) := by rw [IntKind.wrap_i64]; omega
  have hws2 : ((bd.size : Int) + 24) = (z : Int) := by omega
  have hwz : wrap64 (z : Int) = (z : Int) := wrap64_nat z (by omega)
  obtain ⟨w0, hw0⟩ : ∃ x, x = w.alloc (.cells #[.int .i64 kd, .int .i64 ct, .int .u32 pg, .int .u32 lk, .int .u64 ty, .string bd] 26) := ⟨_, rfl⟩
  have Pp := Lib.hid (show Blk w0 w.heap.size 26 #[.int .i64 kd, .int .i64 ct, .int .u32 pg, .int .u32 lk, .int .u64 ty, .string bd] by rw [hw0]; exact Blk.new _ _ _)
  have HB := Lib.hid (show Below w.heap.size w w0 by rw [hw0]; exact (Below.refl _ _).alloc (Nat.le_refl _) _)
  clear hz
  go_enter Try.func31, Try.ntmps31
  go_upto_region 1 with fail
  rw [← hw0]
  clear hw0 hbd
  have c0 := Pp.out.cell 0
  have c2 := Pp.out.cell 2
  have c3 := Pp.out.cell 3
  have c4 := Pp.out.cell 4
  have c5 := Pp.out.cell 5
  simp at c0 c2 c3 c4 c5
  by_cases h1 : kd = 3
  rotate_left
  · have q1 : (kd == 3) = false := by simpa using h1
    have HE := Lib.hid (show headF kd pg lk ty bd = false by rw [hE, decide_eq_false h1]; rfl)
    clear hE h1
    go_wp2_with fail
    go_ret
    exact ⟨by rw [HE.out]; rfl, HB.out⟩
  subst h1
  by_cases h2 : lk = 0
  rotate_left
  · have q2 : ((lk : Int) == 0) = false := by simp; omega
    have HE := Lib.hid (show headF 3 pg lk ty bd = false by rw [hE, decide_eq_false h2]; rfl)
    clear hE h2
    go_wp2_with fail
    go_ret
    exact ⟨by rw [HE.out]; rfl, HB.out⟩
  subst h2
  simp at c3
  rcases hnb : numB pg with _ | _
  · rw [hnb] at HN
    have HE := Lib.hid (show headF 3 pg 0 ty bd = false by rw [hE, hnb]; rfl)
    clear hE hnb
    go_wp2_with (go_at_call 26; refine (HN _).mono ?_; rintro e w' ⟨rfl, rfl⟩)
    go_ret
    exact ⟨by rw [HE.out]; rfl, HB.out⟩
  rw [hnb] at HN hE
  by_cases h4 : ty ≤ 4611686018427387904
  rotate_left
  · have q4 : decide ((ty : Int) ≤ 4611686018427387904) = false := by simp; omega
    have HE := Lib.hid (show headF 3 pg 0 ty bd = false by rw [hE, decide_eq_false h4]; rfl)
    clear hE hnb h4
    go_wp2_with (go_at_call 26; refine (HN _).mono ?_; rintro e w' ⟨rfl, rfl⟩)
    go_ret
    exact ⟨by rw [HE.out]; rfl, HB.out⟩
  have q4 : decide ((ty : Int) ≤ 4611686018427387904) = true := by simp; omega
  rw [decide_eq_true h4] at hE
  rcases hg : goodSize (z : Int) with _ | _
  · have HM := fun w => room_no z w hg
    have HE := Lib.hid (show headF 3 pg 0 ty bd = false by rw [hE, hg]; rfl)
    clear hE hnb h4 hg
    go_wp2_with (first | (go_at_call 26; refine (HN _).mono ?_; rintro e w' ⟨rfl, rfl⟩) | (go_at_call 25; refine (HM _).mono ?_; rintro e w' ⟨rfl, rfl⟩))
    go_ret
    exact ⟨by rw [HE.out]; rfl, HB.out⟩
  · have HM := fun w => room_yes z w hg
    have hgp := good_pos hg
    have q5 : decide ((0 : Int) < (z : Int) - 24) = true := by simp; omega
    have HQ6 := Lib.hid (show decide ((24 : Int) < (z : Int)) = true by simp; omega)
    have HE := Lib.hid (show headF 3 pg 0 ty bd = true by rw [hE, hg]; rfl)
    clear hE hnb h4 hg hgp
    go_wp2_with (first | (go_at_call 26; refine (HN _).mono ?_; rintro e w' ⟨rfl, rfl⟩) | (go_at_call 25; refine (HM _).mono ?_; rintro e w' ⟨rfl, rfl⟩))
    go_ret
    exact ⟨by rw [HE.out]; show Ending.returned (.bool (decide ((24 : Int) < (z : Int)))) = _; rw [HQ6.out], HB.out⟩
theorem bad_is (W : World) (v : Value) : (Instr.typeAssert (.iface 54 v) 20 54 true).run Try.prog W = .ok (.tuple #[v, .bool true]) W := by kernel_rfl
set_option maxHeartbeats 1600000 in
theorem bcatch_bad (a b : Nat) (ta tb : TypeId) (older : List PanicEntry) (w : World) (x y : Value) (hP : Blk w a ta #[x]) (hQ : Blk w b tb #[y]) (hne : b ≠ a) :
    CallsD Try.prog 29 #[.pointer (some ⟨a, 0, none⟩), .pointer (some ⟨b, 0, none⟩)] (.panicking ({ v := .iface 54 (.agg #[]), recovered := false } :: older)) w fun e u' w' =>
      e = .returned (.tuple #[]) ∧ u' = .panicking ({ v := .iface 54 (.agg #[]), recovered := true } :: older) ∧ w' = ((w.alloc (.cells #[] 54)).setCell ⟨a, 0, none⟩ (.slice none 0 0)).setCell ⟨b, 0, none⟩ (.int .i64 4) := by
  have hp1 := (hP.alloc (.cells #[] 54)).cell 0
  have hpz := (hP.alloc (.cells #[] 54)).frozen 0
  have hq1 := ((hQ.alloc (.cells #[] 54)).far (p := ⟨a, 0, none⟩) hne (.slice none 0 0)).cell 0
  have hqz := ((hQ.alloc (.cells #[] 54)).far (p := ⟨a, 0, none⟩) hne (.slice none 0 0)).frozen 0
  simp at hp1 hq1
  refine callsD_of_wpS Try.func29 rfl fun c₀ cs hu => ?_
  apply wpS_seq
  apply wpS_region
  simp [wpOpsS, go_sem, recoverD, hu, Try.ntmps29, Exit.thenS]
  refine wpS_of_wp ?_
  have hwr := bad_is
  rw [show (#[Value.pointer (some ⟨a, 0, none⟩), Value.pointer (some ⟨b, 0, none⟩)] ++ (Array.replicate 9 undef).setIfInBounds 3 (Value.iface 54 (Value.agg #[]))) = #[.pointer (some ⟨a, 0, none⟩), .pointer (some ⟨b, 0, none⟩), undef, undef, undef, Value.iface 54 (Value.agg #[]), undef, undef, undef, undef, undef] from rfl]
  go_wp2
  simp [bodyPostS, results, Try.results29]
theorem bcatch_idle (p q : Addr) (w : World) :
    CallsD Try.prog 29 #[.pointer (some p), .pointer (some q)] .returning w fun e u' w' => e = .returned (.tuple #[]) ∧ u' = .returning ∧ w' = w := by
  refine callsD_of_wpS Try.func29 rfl fun c₀ cs hu => ?_
  apply wpS_seq
  apply wpS_region
  simp [wpOpsS, go_sem, recoverD, hu, Try.ntmps29, Exit.thenS]
  refine wpS_of_wp ?_
  rw [show (#[Value.pointer (some p), Value.pointer (some q)] ++ (Array.replicate 9 undef).setIfInBounds 3 Value.nilIface) = #[.pointer (some p), .pointer (some q), undef, undef, undef, Value.nilIface, undef, undef, undef, undef, undef] from rfl]
  go_wp2
  cases c₀
  simp_all [bodyPostS, results, Try.results29]
end Go.Proofs.Ytddnfmdplkmmdaa
