/-
  Texts that the main proof rests on, put together: BrCatch, BrPage, BrOf, LeItem. No statement is proved here.
-/
import Derived.Test.YtmmjckokjmpfpaaGreatJ21
import Derived.Test.YtmmjckokjmpfpaaGreatJ3
import Derived.Tactics2
import Derived.Defers
import Derived.Recover
import Derived.Laws.Pointers
import Derived.Test.YtmmjckokjmpfpaaGreatJ20
import Derived.Test.YtmmjckokjmpfpaaGreatJ18
import Derived.Test.YtmmjckokjmpfpaaGreatJ11
import Derived.Lib.AppendStr
import Derived.Deep.CutRange
import Derived.Test.YtmmjckokjmpfpaaGreatJ17
set_option linter.unusedVariables false
set_option linter.unusedSimpArgs false
namespace Go.Proofs.YtmmjckokjmpfpaaGreat
open Go.RowKit
open Go.Lib hiding intOf

set_option maxRecDepth 100000 in
set_option maxHeartbeats 6400000 in
theorem bhead_any (kd ct : Int) (pg lk ty : Nat) (bd : ByteArray) (w : World) (hbd : bd.size ≤ 100000) :
  Calls Tryz.prog 119 #[.agg #[.int .i64 kd, .int .i64 ct, .int .u32 pg, .int .u32 lk, .int .u64 ty, .string bd]] w fun e w' => e = .returned (.bool (headF kd pg lk ty bd)) ∧ Below w.heap.size w w' := by
 have HN := fun w => bnum_any pg w
 obtain ⟨z, hz⟩ : ∃ z : Nat, z = bd.size + 24 := ⟨_, rfl⟩
 have hE : headF kd pg lk ty bd = (decide (kd = 3) && (decide (lk = 0) && (numB pg && (decide (ty ≤ 4611686018427387904) && goodSize ((z : Nat) : Int))))) := by rw [headF, hz]
 have hws : IntKind.i64.wrap ((bd.size : Int) + 24) = (z : Int) := by rw [IntKind.wrap_i64]; omega
 have hws2 : ((bd.size : Int) + 24) = (z : Int) := by omega
 have hwz : wrap64 (z : Int) = (z : Int) := wrap64_nat z (by omega)
 obtain ⟨w0, hw0⟩ : ∃ x, x = w.alloc (.cells #[.int .i64 kd, .int .i64 ct, .int .u32 pg, .int .u32 lk, .int .u64 ty, .string bd] 41) := ⟨_, rfl⟩
 have Pp := Lib.hid (show Blk w0 w.heap.size 41 #[.int .i64 kd, .int .i64 ct, .int .u32 pg, .int .u32 lk, .int .u64 ty, .string bd] by rw [hw0]; exact Blk.new _ _ _)
 have HB := Lib.hid (show Below w.heap.size w w0 by rw [hw0]; exact (Below.refl _ _).alloc (Nat.le_refl _) _)
 clear hz
 go_enter Tryz.func119, Tryz.ntmps119
 go_upto_region 1 with fail
 rw [← hw0]
 clear hw0 hbd
 have c0 := Pp.out.cell 0
 have c2 := Pp.out.cell 2
 have c3 := Pp.out.cell 3
 have c4 := Pp.out.cell 4
 have c5 := Pp.out.cell 5
 simp at c0 c2 c3 c4 c5
 by_cases h1 : kd = 3
 rotate_left
 ·have q1 : (kd == 3) = false := by simpa using h1
  have HE := Lib.hid (show headF kd pg lk ty bd = false by rw [hE, decide_eq_false h1]; rfl)
  clear hE h1
  go_wp2_with fail
  go_ret
  exact ⟨by rw [HE.out]; rfl, HB.out⟩
 subst h1
 by_cases h2 : lk = 0
 rotate_left
 ·have q2 : ((lk : Int) == 0) = false := by simp; omega
  have HE := Lib.hid (show headF 3 pg lk ty bd = false by rw [hE, decide_eq_false h2]; rfl)
  clear hE h2
  go_wp2_with fail
  go_ret
  exact ⟨by rw [HE.out]; rfl, HB.out⟩
 subst h2
 simp at c3
 rcases hnb : numB pg with _ | _
 ·rw [hnb] at HN
  have HE := Lib.hid (show headF 3 pg 0 ty bd = false by rw [hE, hnb]; rfl)
  clear hE hnb
  go_wp2_with (go_at_call 134; refine (HN _).mono ?_; rintro e w' ⟨rfl, rfl⟩)
  go_ret
  exact ⟨by rw [HE.out]; rfl, HB.out⟩
 rw [hnb] at HN hE
 by_cases h4 : ty ≤ 4611686018427387904
 rotate_left
 ·have q4 : decide ((ty : Int) ≤ 4611686018427387904) = false := by simp; omega
  have HE := Lib.hid (show headF 3 pg 0 ty bd = false by rw [hE, decide_eq_false h4]; rfl)
  clear hE hnb h4
  go_wp2_with (go_at_call 134; refine (HN _).mono ?_; rintro e w' ⟨rfl, rfl⟩)
  go_ret
  exact ⟨by rw [HE.out]; rfl, HB.out⟩
 have q4 : decide ((ty : Int) ≤ 4611686018427387904) = true := by simp; omega
 rw [decide_eq_true h4] at hE
 rcases hg : goodSize (z : Int) with _ | _
 ·have HM := fun w => room_no z w hg
  have HE := Lib.hid (show headF 3 pg 0 ty bd = false by rw [hE, hg]; rfl)
  clear hE hnb h4 hg
  go_wp2_with (first | (go_at_call 134; refine (HN _).mono ?_; rintro e w' ⟨rfl, rfl⟩) | (go_at_call 122; refine (HM _).mono ?_; rintro e w' ⟨rfl, rfl⟩))
  go_ret
  exact ⟨by rw [HE.out]; rfl, HB.out⟩
 ·have HM := fun w => room_yes z w hg
  have hgp := good_pos hg
  have q5 : decide ((0 : Int) < (z : Int) - 24) = true := by simp; omega
  have HQ6 := Lib.hid (show decide ((24 : Int) < (z : Int)) = true by simp; omega)
  have HE := Lib.hid (show headF 3 pg 0 ty bd = true by rw [hE, hg]; rfl)
  clear hE hnb h4 hg hgp
  go_wp2_with (first | (go_at_call 134; refine (HN _).mono ?_; rintro e w' ⟨rfl, rfl⟩) | (go_at_call 122; refine (HM _).mono ?_; rintro e w' ⟨rfl, rfl⟩))
  go_ret
  exact ⟨by rw [HE.out]; show Ending.returned (.bool (decide ((24 : Int) < (z : Int)))) = _; rw [HQ6.out], HB.out⟩
theorem bad_is (W : World) (v : Value) : (Instr.typeAssert (.iface 186 v) 20 186 true).run Tryz.prog W = .ok (.tuple #[v, .bool true]) W := by kernel_rfl
set_option maxHeartbeats 1600000 in
theorem bcatch_bad (a b : Nat) (ta tb : TypeId) (older : List PanicEntry) (w : World) (x y : Value) (hP : Blk w a ta #[x]) (hQ : Blk w b tb #[y]) (hne : b ≠ a) :
  CallsD Tryz.prog 117 #[.pointer (some ⟨a, 0, none⟩), .pointer (some ⟨b, 0, none⟩)] (.panicking ({ v := .iface 186 (.agg #[]), recovered := false } :: older)) w fun e u' w' =>
   e = .returned (.tuple #[]) ∧ u' = .panicking ({ v := .iface 186 (.agg #[]), recovered := true } :: older) ∧ w' = ((w.alloc (.cells #[] 186)).setCell ⟨a, 0, none⟩ (.slice none 0 0)).setCell ⟨b, 0, none⟩ (.int .i64 4) := by
 have hp1 := (hP.alloc (.cells #[] 186)).cell 0
 have hpz := (hP.alloc (.cells #[] 186)).frozen 0
 have hq1 := ((hQ.alloc (.cells #[] 186)).far (p := ⟨a, 0, none⟩) hne (.slice none 0 0)).cell 0
 have hqz := ((hQ.alloc (.cells #[] 186)).far (p := ⟨a, 0, none⟩) hne (.slice none 0 0)).frozen 0
 simp at hp1 hq1
 refine callsD_of_wpS Tryz.func117 rfl fun c₀ cs hu => ?_
 apply wpS_seq
 apply wpS_region
 simp [wpOpsS, go_sem, recoverD, hu, Tryz.ntmps117, Exit.thenS]
 refine wpS_of_wp ?_
 have hwr := bad_is
 rw [show (#[Value.pointer (some ⟨a, 0, none⟩), Value.pointer (some ⟨b, 0, none⟩)] ++ (Array.replicate 9 undef).setIfInBounds 3 (Value.iface 186 (Value.agg #[]))) = #[.pointer (some ⟨a, 0, none⟩), .pointer (some ⟨b, 0, none⟩), undef, undef, undef, Value.iface 186 (Value.agg #[]), undef, undef, undef, undef, undef] from rfl]
 go_wp2
 simp [bodyPostS, results, Tryz.results117]
theorem bcatch_idle (p q : Addr) (w : World) :
  CallsD Tryz.prog 117 #[.pointer (some p), .pointer (some q)] .returning w fun e u' w' => e = .returned (.tuple #[]) ∧ u' = .returning ∧ w' = w := by
 refine callsD_of_wpS Tryz.func117 rfl fun c₀ cs hu => ?_
 apply wpS_seq
 apply wpS_region
 simp [wpOpsS, go_sem, recoverD, hu, Tryz.ntmps117, Exit.thenS]
 refine wpS_of_wp ?_
 rw [show (#[Value.pointer (some p), Value.pointer (some q)] ++ (Array.replicate 9 undef).setIfInBounds 3 Value.nilIface) = #[.pointer (some p), .pointer (some q), undef, undef, undef, Value.nilIface, undef, undef, undef, undef, undef] from rfl]
 go_wp2
 cases c₀
 simp_all [bodyPostS, results, Tryz.results117]
end Go.Proofs.YtmmjckokjmpfpaaGreat

namespace Go.Proofs.YtmmjckokjmpfpaaGreat
open Go.RowKit
open Go.Lib hiding intOf
attribute [local go_sem ↓] Go.wp_at_zero Go.wp_at_succ

end Go.Proofs.YtmmjckokjmpfpaaGreat

namespace Go.Proofs.YtmmjckokjmpfpaaGreat
open Go.RowKit
open Go.Lib hiding intOf
attribute [local go_sem ↓] Go.wp_at_zero Go.wp_at_succ

theorem results_cell_cell {P : Program} {fn : Func} {p q : Tmp} {ty tq : TypeId} (h : fn.results = #[.cell p ty, .cell q tq]) (tmps : Array Value) (w : World) (g g' : Nat) (u v : Value)
  (hp : tmps.getD p undef = .pointer (some ⟨g, 0, none⟩)) (hq : tmps.getD q undef = .pointer (some ⟨g', 0, none⟩)) (hu : (loadVar ty ⟨g, 0, none⟩).run P w = .ok u w) (hv : (loadVar tq ⟨g', 0, none⟩).run P w = .ok v w) :
  (results fn tmps).run P w = .ok (.tuple #[u, v]) w := by
 have hp' : tmps[p]?.getD undef = .pointer (some ⟨g, 0, none⟩) := by simpa using hp
 have hq' : tmps[q]?.getD undef = .pointer (some ⟨g', 0, none⟩) := by simpa using hq
 simp [results, h, hp', hq', asAddr, hu, hv]
theorem load_errno7 (w : World) (g : Nat) (n : Int) (h : w.cell? ⟨g, 0, none⟩ = some (.int .i64 n)) : (loadVar 28 ⟨g, 0, none⟩).run Tryz.prog w = .ok (.int .i64 n) w := by
 simp [go_sem, h]
theorem load_fks (w : World) (g : Nat) (v : Value) (h : w.cell? ⟨g, 0, none⟩ = some v) : (loadVar 46 ⟨g, 0, none⟩).run Tryz.prog w = .ok v w := by
 simp [go_sem, h]
set_option maxRecDepth 100000 in
set_option maxHeartbeats 12800000 in
theorem bof7_new (kd ct : Int) (pg lk ty : Nat) (bd : ByteArray) (w : World) (hbd : bd.size ≤ 100000) :
  Calls Tryz.prog 99 #[.agg #[.int .i64 kd, .int .i64 ct, .int .u32 pg, .int .u32 lk, .int .u64 ty, .string bd]] w (OfPost7n (readF kd ct pg lk ty bd) w) := by
 have hmf : ∀ (fn : Fn) (first cap : Array Value) (w : World), (Instr.makeFunc fn first cap).run Tryz.prog w = .ok (.func fn first cap) w := fun _ _ _ _ => rfl
 obtain ⟨hz, hi⟩ := zero_of_info infoPg
 have HI := Lib.hid hi
 clear hi
 have HRd := Lib.hid (readF_is kd ct pg lk ty bd)
 obtain ⟨w0, hw0⟩ : ∃ w0, w0 = ((w.alloc (.cells #[.int .i64 kd, .int .i64 ct, .int .u32 pg, .int .u32 lk, .int .u64 ty, .string bd] 41)).alloc (.cells #[.slice none 0 0] 46)).alloc (.cells #[.int .i64 0] 28) := ⟨_, rfl⟩
 have Pp := Lib.hid (show Blk w0 w.heap.size 41 #[.int .i64 kd, .int .i64 ct, .int .u32 pg, .int .u32 lk, .int .u64 ty, .string bd] by rw [hw0]; exact ((Blk.new _ _ _).alloc _).alloc _)
 have L0 := Lib.hid (show Blk w0 (w.heap.size + 1) 46 #[.slice none 0 0] by
  rw [hw0]
  have := (Blk.new (w.alloc (.cells #[.int .i64 kd, .int .i64 ct, .int .u32 pg, .int .u32 lk, .int .u64 ty, .string bd] 41)) 46 #[.slice none 0 0]).alloc (.cells #[.int .i64 0] 28)
  simpa using this)
 have E0 := Lib.hid (show Blk w0 (w.heap.size + 2) 28 #[.int .i64 0] by
  rw [hw0]
  have := Blk.new ((w.alloc (.cells #[.int .i64 kd, .int .i64 ct, .int .u32 pg, .int .u32 lk, .int .u64 ty, .string bd] 41)).alloc (.cells #[.slice none 0 0] 46)) 28 #[.int .i64 0]
  simpa using this)
 have HB := Lib.hid (show Below w.heap.size w w0 by rw [hw0]; exact (((Below.refl _ _).alloc (Nat.le_refl _) _).alloc (by simp) _).alloc (by simp; omega) _)
 have Hbd := Lib.hid hbd
 have HZ0 := Lib.hid (show w.heap.size + 3 ≤ w0.heap.size by rw [hw0]; simp)
 clear hbd
 go_enter_defers Tryz.func99, Tryz.ntmps99
 go_upto_region 2 with fail
 rw [← hw0]
 clear hw0
 have c0 := Pp.out.cell 0
 have c1 := Pp.out.cell 1
 have c2 := Pp.out.cell 2
 have c3 := Pp.out.cell 3
 have c4 := Pp.out.cell 4
 have c5 := Pp.out.cell 5
 simp at c0 c1 c2 c3 c4 c5
 go_wp2_with fail
 refine (bhead_any kd ct pg lk ty bd _ Hbd.out).mono ?_
 rintro e w1 ⟨rfl, hb⟩
 replace Pp := Lib.hid (Pp.out.below hb Pp.out.lt)
 replace L0 := Lib.hid (L0.out.below hb L0.out.lt)
 replace E0 := Lib.hid (E0.out.below hb E0.out.lt)
 replace HB := Lib.hid (HB.out.trans (hb.mono HB.out.size))
 obtain ⟨gR, hgR⟩ : ∃ gR, gR = w1.heap.size := ⟨_, rfl⟩
 have HgR := Lib.hid (show w.heap.size + 3 ≤ gR by rw [hgR]; exact Nat.le_trans HZ0.out hb.size)
 have HgE := Lib.hid hgR
 clear hb c0 c1 c2 c3 c4 c5 hgR HZ0
 rcases hh : headF kd pg lk ty bd with _ | _
 ·have HE := Lib.hid (show readF kd ct pg lk ty bd = none by rw [HRd.out, hh]; rfl)
  clear HRd hh
  go_wp2_with fail
  refine (bneed_no _).mono ?_
  rintro e w2 ⟨rfl, rfl⟩
  refine leaves_cons (f := 117) (args := #[.pointer (some ⟨w.heap.size + 1, 0, none⟩), .pointer (some ⟨w.heap.size + 2, 0, none⟩)]) (by simp) (by simp [go_sem]) ?_
  refine (bcatch_bad (w.heap.size + 1) (w.heap.size + 2) _ _ [] _ _ _ L0.out E0.out (by omega)).mono ?_
  rintro e u' w'' ⟨rfl, rfl, rfl⟩
  have L1 := Lib.hid (((L0.out.alloc (.cells #[] 186)).set_ 0 (.slice none 0 0)).far (p := ⟨w.heap.size + 2, 0, none⟩) (show w.heap.size + 1 ≠ w.heap.size + 2 by omega) (.int .i64 4))
  have E1 := Lib.hid (((E0.out.alloc (.cells #[] 186)).far (p := ⟨w.heap.size + 1, 0, none⟩) (show w.heap.size + 2 ≠ w.heap.size + 1 by omega) (.slice none 0 0)).set_ 0 (.int .i64 4))
  have HB1 := Lib.hid (((HB.out.alloc HB.out.size (.cells #[] 186)).setCell (p := ⟨w.heap.size + 1, 0, none⟩) (Nat.le_succ _) (.slice none 0 0)).setCell (p := ⟨w.heap.size + 2, 0, none⟩) (show w.heap.size ≤ w.heap.size + 2 by omega) (.int .i64 4))
  show Leaves _ _ _ _ [] .returning _
  refine ⟨_, results_cell_cell rfl _ _ (w.heap.size + 1) (w.heap.size + 2) (.slice none 0 0) (.int .i64 4) rfl rfl (load_fks _ _ _ (L1.out.cell 0)) (load_errno7 _ _ _ (E1.out.cell 0)), ?_⟩
  rw [HE.out]
  exact ⟨rfl, HB1.out⟩
 ·replace HRd := Lib.hid (show readF kd ct pg lk ty bd = forksF ct bd.data.toList by rw [HRd.out, hh]; rfl)
  clear hh
  have c1 := Pp.out.cell 1
  have c5 := Pp.out.cell 5
  simp at c1 c5
  go_wp2_with (go_at_call 118; refine (bneed_yes _).mono ?_; rintro e w' ⟨rfl, rfl⟩)
  refine (new_any' bd _).mono ?_
  rintro e w2 ⟨rfl, hrf, hb, hlt2⟩
  replace Pp := Lib.hid (Pp.out.below hb Pp.out.lt)
  replace L0 := Lib.hid (L0.out.below hb L0.out.lt)
  replace E0 := Lib.hid (E0.out.below hb E0.out.lt)
  replace HB := Lib.hid (HB.out.trans (hb.mono HB.out.size))
  have HF := Lib.hid hrf
  clear hb hrf hlt2 c1 c5
  rw [← HgE.out] at HF ⊢
  clear HgE
  have HBx := Lib.hid (HB.out.alloc HB.out.size (.cells #[.pointer (some ⟨gR, 0, none⟩)] 192))
  obtain ⟨w3, hw3⟩ : ∃ x, x = w2.alloc (.cells #[.pointer (some ⟨gR, 0, none⟩)] 192) := ⟨_, rfl⟩
  have Rx := Lib.hid (show Blk w3 w2.heap.size 192 #[.pointer (some ⟨gR, 0, none⟩)] by rw [hw3]; exact Blk.new _ _ _)
  replace Pp := Lib.hid (show Blk w3 w.heap.size 41 #[.int .i64 kd, .int .i64 ct, .int .u32 pg, .int .u32 lk, .int .u64 ty, .string bd] by rw [hw3]; exact Pp.out.alloc _)
  replace L0 := Lib.hid (show Blk w3 (w.heap.size + 1) 46 #[.slice none 0 0] by rw [hw3]; exact L0.out.alloc _)
  replace E0 := Lib.hid (show Blk w3 (w.heap.size + 2) 28 #[.int .i64 0] by rw [hw3]; exact E0.out.alloc _)
  replace HB := Lib.hid (show Below w.heap.size w w3 by rw [hw3]; exact HBx.out)
  replace HF := Lib.hid (show IsRd w3 gR bd by rw [hw3]; exact Blk.alloc HF.out _)
  go_upto_region 4 with fail
  rw [← hw3]
  have HXl := Lib.hid (show gR < w3.heap.size from Blk.lt HF.out)
  clear hw3 HBx
  generalize w2.heap.size = gX at *
  have c1 := Pp.out.cell 1
  have x0 := Rx.out.cell 0
  simp at c1 x0
  go_wp2_with fail
  refine (bforks_tot HF.out Hbd.out ct).mono ?_
  rintro e w4 ⟨hg, hp⟩
  rw [← HRd.out] at hp
  have hne1 : some (w.heap.size + 1) ≠ some gR := by intro h; injection h with h; have := HgR.out; omega
  have hne2 : some (w.heap.size + 2) ≠ some gR := by intro h; injection h with h; have := HgR.out; omega
  replace L0 := Lib.hid (L0.out.grown hg hne1)
  replace E0 := Lib.hid (E0.out.grown hg hne2)
  replace HB := Lib.hid (HB.out.trans (below_of_grown hg (by have := HgR.out; omega) HB.out.size))
  rcases hr : readF kd ct pg lk ty bd with _ | l
  ·rw [hr] at hp
   have he : e = .panicked [{ v := .iface 186 (.agg #[]), recovered := false }] := hp
   subst he
   have HE := Lib.hid hr
   clear hp hg hr
   refine leaves_cons (f := 117) (args := #[.pointer (some ⟨w.heap.size + 1, 0, none⟩), .pointer (some ⟨w.heap.size + 2, 0, none⟩)]) (by simp) (by simp [go_sem]) ?_
   refine (bcatch_bad (w.heap.size + 1) (w.heap.size + 2) _ _ [] _ _ _ L0.out E0.out (by omega)).mono ?_
   rintro e u' w'' ⟨rfl, rfl, rfl⟩
   have L1 := Lib.hid (((L0.out.alloc (.cells #[] 186)).set_ 0 (.slice none 0 0)).far (p := ⟨w.heap.size + 2, 0, none⟩) (show w.heap.size + 1 ≠ w.heap.size + 2 by omega) (.int .i64 4))
   have E1 := Lib.hid (((E0.out.alloc (.cells #[] 186)).far (p := ⟨w.heap.size + 1, 0, none⟩) (show w.heap.size + 2 ≠ w.heap.size + 1 by omega) (.slice none 0 0)).set_ 0 (.int .i64 4))
   have HB1 := Lib.hid (((HB.out.alloc HB.out.size (.cells #[] 186)).setCell (p := ⟨w.heap.size + 1, 0, none⟩) (Nat.le_succ _) (.slice none 0 0)).setCell (p := ⟨w.heap.size + 2, 0, none⟩) (show w.heap.size ≤ w.heap.size + 2 by omega) (.int .i64 4))
   show Leaves _ _ _ _ [] .returning _
   refine ⟨_, results_cell_cell rfl _ _ (w.heap.size + 1) (w.heap.size + 2) (.slice none 0 0) (.int .i64 4) rfl rfl (load_fks _ _ _ (L1.out.cell 0)) (load_errno7 _ _ _ (E1.out.cell 0)), ?_⟩
   exact ⟨rfl, HB1.out⟩
  ·rw [hr] at hp
   obtain ⟨A, n, c, rfl, hrd, hnc, hcm, hlo⟩ := hp
   have HE := Lib.hid hr
   have HRw := Lib.hid hrd
   have HLo := Lib.hid (show ∀ ad, A = some ad → w.heap.size ≤ ad.block from fun ad e => by have h1 := hlo ad e; have h2 := HgR.out; have h3 := HXl.out; omega)
   have HC := Lib.hid hnc
   have HMx := Lib.hid hcm
   clear hg hr hrd hnc hcm c1 x0
   have k0 := L0.out.cell 0
   have f0 := L0.out.frozen 0
   simp at k0
   have E1 := Lib.hid (E0.out.far (p := ⟨w.heap.size + 1, 0, none⟩) (show w.heap.size + 2 ≠ w.heap.size + 1 by omega) (.slice A n c))
   have L1 := Lib.hid (L0.out.set_ 0 (.slice A n c))
   have HB1 := Lib.hid (HB.out.setCell (p := ⟨w.heap.size + 1, 0, none⟩) (Nat.le_succ _) (.slice A n c))
   have k1 := E1.out.cell 0
   have f1 := E1.out.frozen 0
   simp at k1
   have HR1 := Lib.hid (show Reads ((w4.setCell ⟨w.heap.size + 1, 0, none⟩ (.slice A n c)).setCell ⟨w.heap.size + 2, 0, none⟩ (.int .i64 0)) ((w4.setCell ⟨w.heap.size + 1, 0, none⟩ (.slice A n c)).setCell ⟨w.heap.size + 2, 0, none⟩ (.int .i64 0)).heap.size 2 A n (fkc l) by
    have hgg := HgR.out
    have hxx := HXl.out
    refine (HRw.out.keep_from hlo fun p hp => ?_).more (by simp [World.setCell])
    rw [World.cell?_setCell_other _ _ _ _ (fun e => by subst e; simp at hp; omega), World.cell?_setCell_other _ _ _ _ (fun e => by subst e; simp at hp; omega)])
   have L2 := Lib.hid (L1.out.far (p := ⟨w.heap.size + 2, 0, none⟩) (show w.heap.size + 1 ≠ w.heap.size + 2 by omega) (.int .i64 0))
   have E2 := Lib.hid (E1.out.set_ 0 (.int .i64 0))
   have HB2 := Lib.hid (HB1.out.setCell (p := ⟨w.heap.size + 2, 0, none⟩) (show w.heap.size ≤ w.heap.size + 2 by omega) (.int .i64 0))
   clear hlo
   go_wp2_with fail
   refine leaves_cons (f := 117) (args := #[.pointer (some ⟨w.heap.size + 1, 0, none⟩), .pointer (some ⟨w.heap.size + 2, 0, none⟩)]) (by simp) (by simp [go_sem]) ?_
   refine (bcatch_idle ⟨w.heap.size + 1, 0, none⟩ ⟨w.heap.size + 2, 0, none⟩ _).mono ?_
   rintro e u' w'' ⟨rfl, rfl, rfl⟩
   show Leaves _ _ _ _ [] .returning _
   refine ⟨_, results_cell_cell rfl _ _ (w.heap.size + 1) (w.heap.size + 2) (.slice A n c) (.int .i64 0) rfl rfl (load_fks _ _ _ (L2.out.cell 0)) (load_errno7 _ _ _ (E2.out.cell 0)), ?_⟩
   (try rw [HE.out])
   exact ⟨A, n, c, rfl, HR1.out, HC.out, HMx.out, HB2.out, HLo.out⟩
end Go.Proofs.YtmmjckokjmpfpaaGreat

namespace Go.Proofs.YtmmjckokjmpfpaaGreat
open Go.RowKit
open Go.Lib hiding intOf
attribute [local go_sem ↓] Go.wp_at_zero Go.wp_at_succ

theorem blk5 {w : World} {g : Nat} {t : TypeId} {a0 a1 a2 a3 a4 : Value} (h : Blk w g t #[a0, a1, a2, a3, a4]) : w.cell? ⟨g, 0, none⟩ = some a0 ∧ w.cell? ⟨g, 1, none⟩ = some a1 ∧ w.cell? ⟨g, 2, none⟩ = some a2 ∧ w.cell? ⟨g, 3, none⟩ = some a3 ∧ w.cell? ⟨g, 4, none⟩ = some a4 := ⟨h.cell 0, h.cell 1, h.cell 2, h.cell 3, h.cell 4⟩
set_option maxRecDepth 100000 in
set_option maxHeartbeats 12800000 in
theorem lread_item {w : World} {g : Nat} {s : ByteArray} (h : IsRd w g s) (hs : s.size ≤ 100000) :
  Calls Tryz.prog 124 #[.agg #[.pointer (some ⟨g, 0, none⟩)]] w fun e w' => ∃ (b : It) (x : Int) (s' : ByteArray), e = .returned (.tuple #[.agg #[.string b.ky, .string b.vl, .bool b.ov, .int .i64 b.ln, .int .u32 b.hd], .int .i64 x]) ∧ IsRd w' g s' ∧ w.grownBy w' (some g) ∧ itemOk s b x s' := by
 have hmf : ∀ (fn : Fn) (first cap : Array Value) (w : World), (Instr.makeFunc fn first cap).run Tryz.prog w = .ok (.func fn first cap) w := fun _ _ _ _ => rfl
 have eg1 : ∀ args w, (callFunc 141 args).run Tryz.prog w = .ok (.enter 141 args) w := fun _ _ => by first | rfl | kernel_rfl
 have eg2 : ∀ args w, (callFunc 142 args).run Tryz.prog w = .ok (.enter 142 args) w := fun _ _ => by first | rfl | kernel_rfl
 obtain ⟨hz, hi⟩ := zero_of_info infoItz
 have HI := Lib.hid hi
 clear hi
 obtain ⟨w0, hw0⟩ : ∃ x, x = (w.alloc (.cells #[.pointer (some ⟨g, 0, none⟩)] 197)).alloc (.cells #[.string ByteArray.empty, .string ByteArray.empty, .bool false, .int .i64 0, .int .u32 0] 76) := ⟨_, rfl⟩
 have Bx := Lib.hid (show Blk w0 w.heap.size 197 #[.pointer (some ⟨g, 0, none⟩)] by rw [hw0]; exact (Blk.new _ _ _).alloc _)
 have R0 := Lib.hid (show Blk w0 (w.heap.size + 1) 76 #[.string ByteArray.empty, .string ByteArray.empty, .bool false, .int .i64 0, .int .u32 0] by
  rw [hw0]
  have := Blk.new (w.alloc (.cells #[.pointer (some ⟨g, 0, none⟩)] 197)) 76 #[.string ByteArray.empty, .string ByteArray.empty, .bool false, .int .i64 0, .int .u32 0]
  simpa using this)
 have F := Lib.hid (show IsRd w0 g s by rw [hw0]; exact Blk.alloc (Blk.alloc h _) _)
 have G := Lib.hid (show w.grownBy w0 (some g) by rw [hw0]; exact grown_trans (World.grownBy_alloc _ _ _) (World.grownBy_alloc _ _ _))
 have HNE := Lib.hid (show w.heap.size + 1 ≠ g by have := Blk.lt h; omega)
 have HNF := Lib.hid (show w.heap.size ≠ g by have := Blk.lt h; omega)
 have Hs := Lib.hid hs
 clear h hs
 go_enter Tryz.func124, Tryz.ntmps124
 go_upto_region 1 with fail
 rw [← hw0]
 clear hw0
 have b0 := Bx.out.cell 0
 simp at b0
 go_wp2_with fail
 refine (cnum_tot F.out 1 (by decide) (by decide)).mono ?_
 rintro e w1 ⟨vo, x0, t0, rfl, hf, hg, hv, hx⟩
 replace Bx := Lib.hid (Blk.grown Bx.out hg (fun e => HNF.out (by injection e)))
 replace R0 := Lib.hid (Blk.grown R0.out hg (fun e => HNE.out (by injection e)))
 replace F := Lib.hid hf
 replace G := Lib.hid (grown_trans G.out hg)
 have X0 := Lib.hid hx
 have ht0 : t0.size ≤ 100000 := Nat.le_trans (tookN_le hx) Hs.out
 clear hf hg hx hv b0
 have b0 := Bx.out.cell 0
 simp at b0
 go_wp2_with fail
 refine (ltext_raw F.out ht0).mono ?_
 rintro e w2 ⟨vn, x1, x2, t1, ky, t2, rfl, hf, hg, h1, h2⟩
 replace Bx := Lib.hid (Blk.grown Bx.out hg (fun e => HNF.out (by injection e)))
 replace R0 := Lib.hid (Blk.grown R0.out hg (fun e => HNE.out (by injection e)))
 replace F := Lib.hid hf
 replace G := Lib.hid (grown_trans G.out hg)
 have X1 := Lib.hid h1
 have X2 := Lib.hid h2
 have HT2 := Lib.hid (show t2.size ≤ 100000 from Nat.le_trans (tookB_le h2) (Nat.le_trans (tookN_le h1) ht0))
 clear hf hg h1 h2 b0 ht0
 have b0 := Bx.out.cell 0
 simp at b0
 obtain ⟨y1, hy1⟩ : ∃ y, y = orL [x1, x2] := ⟨_, rfl⟩
 rw [← hy1]
 have HY1 := Lib.hid hy1
 clear hy1
 by_cases hvo : vo = 1
 ·subst hvo
  go_wp2_with fail
  refine (lover_raw F.out ky).mono ?_
  rintro e w3 ⟨v3, v4, x3, x4, t3, t4, rfl, hf, hg, h3, h4⟩
  have HOK := Lib.hid (item_ov X0.out X1.out X2.out h3 h4)
  replace R0 := Lib.hid (Blk.grown R0.out hg (fun e => HNE.out (by injection e)))
  replace F := Lib.hid hf
  replace G := Lib.hid (grown_trans G.out hg)
  clear hf hg h3 h4 b0
  obtain ⟨y2, hy2⟩ : ∃ y, y = orL [x3, x4] := ⟨_, rfl⟩
  rw [← HY1.out, ← hy2] at HOK
  rw [← hy2]
  clear hy2
  go_upto_region 7 with fail
  obtain ⟨w5, hw5⟩ : ∃ x, x = w3.alloc (.cells #[.string ky, .string ByteArray.empty, .bool true, .int .i64 v3, .int .u32 v4] 76) := ⟨_, rfl⟩
  have Bb := Lib.hid (show Blk w5 w3.heap.size 76 #[.string ky, .string ByteArray.empty, .bool true, .int .i64 v3, .int .u32 v4] by rw [hw5]; exact Blk.new _ _ _)
  have HLT := Lib.hid (show w.heap.size + 1 < w3.heap.size from R0.out.lt)
  replace R0 := Lib.hid (show Blk w5 (w.heap.size + 1) 76 #[.string ByteArray.empty, .string ByteArray.empty, .bool false, .int .i64 0, .int .u32 0] by rw [hw5]; exact R0.out.alloc _)
  replace F := Lib.hid (show IsRd w5 g t4 by rw [hw5]; exact Blk.alloc F.out _)
  replace G := Lib.hid (show w.grownBy w5 (some g) by rw [hw5]; exact grown_trans G.out (World.grownBy_alloc _ _ _))
  rw [← hw5]
  clear hw5
  generalize w3.heap.size = gB at *
  refine wp_region_held_drew (S := (fun w' => w'.cell? ⟨gB, 0, none⟩ = some (.string ky) ∧ w'.cell? ⟨gB, 1, none⟩ = some (.string ByteArray.empty) ∧ w'.cell? ⟨gB, 2, none⟩ = some (.bool true) ∧ w'.cell? ⟨gB, 3, none⟩ = some (.int .i64 v3) ∧ w'.cell? ⟨gB, 4, none⟩ = some (.int .u32 v4))) (by kernel_rfl) (blk5 Bb.out) (fun hHeld => ?_)
  refine tkA (i := 0) ?_
  try simp only [tkP]
  refine tkA (i := 1) ?_
  try simp only [tkP]
  refine tkA (i := 2) ?_
  try simp only [tkP]
  refine tkA (i := 3) ?_
  try simp only [tkP]
  refine wpAnyH_ready (rs := [4]) (by kernel_rfl) (by simp) ?_
  refine tkC (fun K hK => ?_)
  go_simp
  refine hK.out _ _ (blk5 (Bb.out.alloc _)) (fun hHeld => ?_)
  clear hK K
  try simp only [tkP]
  have E := Lib.hid (show Reads (w5.alloc (.cells #[.int .i64 x0, .int .i64 y1, .int .i64 y2] 28)).drew (w5.heap.size + 1) 1 (some ⟨w5.heap.size, 0, none⟩) 3 (ecells [x0, y1, y2]) from (reads_own (n := 3) (Blk.new w5 28 #[.int .i64 x0, .int .i64 y1, .int .i64 y2]) rfl).drew)
  replace E := Lib.hid (show Reads (w5.alloc (.cells #[.int .i64 x0, .int .i64 y1, .int .i64 y2] 28)).drew (w5.alloc (.cells #[.int .i64 x0, .int .i64 y1, .int .i64 y2] 28)).drew.heap.size 1 (some ⟨w5.heap.size, 0, none⟩) 3 (ecells [x0, y1, y2]) from E.out.more (by simp))
  replace Bb := Lib.hid ((Bb.out.alloc (.cells #[.int .i64 x0, .int .i64 y1, .int .i64 y2] 28)).drew)
  replace R0 := Lib.hid ((R0.out.alloc (.cells #[.int .i64 x0, .int .i64 y1, .int .i64 y2] 28)).drew)
  replace F := Lib.hid (show IsRd (w5.alloc (.cells #[.int .i64 x0, .int .i64 y1, .int .i64 y2] 28)).drew g t4 from Blk.alloc F.out _)
  replace G := Lib.hid (grown_trans (grown_trans G.out (World.grownBy_alloc w5 (.cells #[.int .i64 x0, .int .i64 y1, .int .i64 y2] 28) _)) (grown_drew _ _))
  generalize (w5.alloc (.cells #[.int .i64 x0, .int .i64 y1, .int .i64 y2] 28)).drew = w6 at *
  refine wpAnyH_ready (rs := [5]) (by kernel_rfl) (by simp) ?_
  refine tkC (fun K hK => ?_)
  go_simp
  refine (cor_any _ 3 3 [x0, y1, y2] _ E.out (by decide)).mono ?_
  rintro e wq ⟨rfl, rfl⟩
  refine hK.out _ _ (blk5 Bb.out) (fun hHeld => ?_)
  clear hK K
  try simp only [tkP]
  refine wpAnyH_ready (rs := [6]) (by kernel_rfl) (by simp) ?_
  refine tkC (fun K hK => ?_)
  have k0 := R0.out.cell 0
  have k1 := R0.out.cell 1
  have k2 := R0.out.cell 2
  have k3 := R0.out.cell 3
  have k4 := R0.out.cell 4
  have f0 := R0.out.frozen 0
  have f1 := R0.out.frozen 1
  have f2 := R0.out.frozen 2
  have f3 := R0.out.frozen 3
  have f4 := R0.out.frozen 4
  simp at k0 k1 k2 k3 k4
  go_simp
  refine hK.out _ _ (blk5 (((((Bb.out.far (p := ⟨w.heap.size + 1, 0, none⟩) (Nat.ne_of_gt HLT.out) _).far (p := ⟨w.heap.size + 1, 1, none⟩) (Nat.ne_of_gt HLT.out) _).far (p := ⟨w.heap.size + 1, 2, none⟩) (Nat.ne_of_gt HLT.out) _).far (p := ⟨w.heap.size + 1, 3, none⟩) (Nat.ne_of_gt HLT.out) _).far (p := ⟨w.heap.size + 1, 4, none⟩) (Nat.ne_of_gt HLT.out) _)) (fun hHeld => ?_)
  clear hK K
  try simp only [tkP]
  refine tkA (i := 7) ?_
  try simp only [tkP]
  refine wpAnyH_done (by kernel_rfl) ?_ _
  go_wp2_with fail
  exact bodyPost_ret (read_row rfl _ _ _ (w.heap.size + 1) #[.string ky, .string ByteArray.empty, .bool true, .int .i64 v3, .int .u32 v4] rfl (load_it (five_at R0.out))) rfl ⟨⟨ky, ⟨#[]⟩, true, (v3 : Nat), v4⟩, orL [x0, y1, y2], t4, rfl, five_far F.out (Ne.symm HNE.out), five_grown G.out (Nat.le_succ _), HOK.out⟩
 ·have hvo1 : ((vo : Int) == 1) = false := by simp; omega
  have hvo2 : (vo == 1) = false := by simp; omega
  go_wp2_with fail
  refine (lplace_raw F.out HT2.out ky).mono ?_
  rintro e w3 ⟨v3, x3, x4, t3, vl, t4, rfl, hf, hg, h3, h4⟩
  have HOK := Lib.hid (item_in hvo X0.out X1.out X2.out h3 h4)
  clear hvo1 hvo2
  replace R0 := Lib.hid (Blk.grown R0.out hg (fun e => HNE.out (by injection e)))
  replace F := Lib.hid hf
  replace G := Lib.hid (grown_trans G.out hg)
  clear hf hg h3 h4 b0
  obtain ⟨y2, hy2⟩ : ∃ y, y = orL [x3, x4] := ⟨_, rfl⟩
  rw [← HY1.out, ← hy2] at HOK
  rw [← hy2]
  clear hy2
  go_upto_region 7 with fail
  obtain ⟨w5, hw5⟩ : ∃ x, x = w3.alloc (.cells #[.string ky, .string vl, .bool false, .int .i64 0, .int .u32 0] 76) := ⟨_, rfl⟩
  have Bb := Lib.hid (show Blk w5 w3.heap.size 76 #[.string ky, .string vl, .bool false, .int .i64 0, .int .u32 0] by rw [hw5]; exact Blk.new _ _ _)
  have HLT := Lib.hid (show w.heap.size + 1 < w3.heap.size from R0.out.lt)
  replace R0 := Lib.hid (show Blk w5 (w.heap.size + 1) 76 #[.string ByteArray.empty, .string ByteArray.empty, .bool false, .int .i64 0, .int .u32 0] by rw [hw5]; exact R0.out.alloc _)
  replace F := Lib.hid (show IsRd w5 g t4 by rw [hw5]; exact Blk.alloc F.out _)
  replace G := Lib.hid (show w.grownBy w5 (some g) by rw [hw5]; exact grown_trans G.out (World.grownBy_alloc _ _ _))
  rw [← hw5]
  clear hw5
  generalize w3.heap.size = gB at *
  refine wp_region_held_drew (S := (fun w' => w'.cell? ⟨gB, 0, none⟩ = some (.string ky) ∧ w'.cell? ⟨gB, 1, none⟩ = some (.string vl) ∧ w'.cell? ⟨gB, 2, none⟩ = some (.bool false) ∧ w'.cell? ⟨gB, 3, none⟩ = some (.int .i64 0) ∧ w'.cell? ⟨gB, 4, none⟩ = some (.int .u32 0))) (by kernel_rfl) (blk5 Bb.out) (fun hHeld => ?_)
  refine tkA (i := 0) ?_
  try simp only [tkP]
  refine tkA (i := 1) ?_
  try simp only [tkP]
  refine tkA (i := 2) ?_
  try simp only [tkP]
  refine tkA (i := 3) ?_
  try simp only [tkP]
  refine wpAnyH_ready (rs := [4]) (by kernel_rfl) (by simp) ?_
  refine tkC (fun K hK => ?_)
  go_simp
  refine hK.out _ _ (blk5 (Bb.out.alloc _)) (fun hHeld => ?_)
  clear hK K
  try simp only [tkP]
  have E := Lib.hid (show Reads (w5.alloc (.cells #[.int .i64 x0, .int .i64 y1, .int .i64 y2] 28)).drew (w5.heap.size + 1) 1 (some ⟨w5.heap.size, 0, none⟩) 3 (ecells [x0, y1, y2]) from (reads_own (n := 3) (Blk.new w5 28 #[.int .i64 x0, .int .i64 y1, .int .i64 y2]) rfl).drew)
  replace E := Lib.hid (show Reads (w5.alloc (.cells #[.int .i64 x0, .int .i64 y1, .int .i64 y2] 28)).drew (w5.alloc (.cells #[.int .i64 x0, .int .i64 y1, .int .i64 y2] 28)).drew.heap.size 1 (some ⟨w5.heap.size, 0, none⟩) 3 (ecells [x0, y1, y2]) from E.out.more (by simp))
  replace Bb := Lib.hid ((Bb.out.alloc (.cells #[.int .i64 x0, .int .i64 y1, .int .i64 y2] 28)).drew)
  replace R0 := Lib.hid ((R0.out.alloc (.cells #[.int .i64 x0, .int .i64 y1, .int .i64 y2] 28)).drew)
  replace F := Lib.hid (show IsRd (w5.alloc (.cells #[.int .i64 x0, .int .i64 y1, .int .i64 y2] 28)).drew g t4 from Blk.alloc F.out _)
  replace G := Lib.hid (grown_trans (grown_trans G.out (World.grownBy_alloc w5 (.cells #[.int .i64 x0, .int .i64 y1, .int .i64 y2] 28) _)) (grown_drew _ _))
  generalize (w5.alloc (.cells #[.int .i64 x0, .int .i64 y1, .int .i64 y2] 28)).drew = w6 at *
  refine wpAnyH_ready (rs := [5]) (by kernel_rfl) (by simp) ?_
  refine tkC (fun K hK => ?_)
  go_simp
  refine (cor_any _ 3 3 [x0, y1, y2] _ E.out (by decide)).mono ?_
  rintro e wq ⟨rfl, rfl⟩
  refine hK.out _ _ (blk5 Bb.out) (fun hHeld => ?_)
  clear hK K
  try simp only [tkP]
  refine wpAnyH_ready (rs := [6]) (by kernel_rfl) (by simp) ?_
  refine tkC (fun K hK => ?_)
  have k0 := R0.out.cell 0
  have k1 := R0.out.cell 1
  have k2 := R0.out.cell 2
  have k3 := R0.out.cell 3
  have k4 := R0.out.cell 4
  have f0 := R0.out.frozen 0
  have f1 := R0.out.frozen 1
  have f2 := R0.out.frozen 2
  have f3 := R0.out.frozen 3
  have f4 := R0.out.frozen 4
  simp at k0 k1 k2 k3 k4
  go_simp
  refine hK.out _ _ (blk5 (((((Bb.out.far (p := ⟨w.heap.size + 1, 0, none⟩) (Nat.ne_of_gt HLT.out) _).far (p := ⟨w.heap.size + 1, 1, none⟩) (Nat.ne_of_gt HLT.out) _).far (p := ⟨w.heap.size + 1, 2, none⟩) (Nat.ne_of_gt HLT.out) _).far (p := ⟨w.heap.size + 1, 3, none⟩) (Nat.ne_of_gt HLT.out) _).far (p := ⟨w.heap.size + 1, 4, none⟩) (Nat.ne_of_gt HLT.out) _)) (fun hHeld => ?_)
  clear hK K
  try simp only [tkP]
  refine tkA (i := 7) ?_
  try simp only [tkP]
  refine wpAnyH_done (by kernel_rfl) ?_ _
  go_wp2_with fail
  exact bodyPost_ret (read_row rfl _ _ _ (w.heap.size + 1) #[.string ky, .string vl, .bool false, .int .i64 0, .int .u32 0] rfl (load_it (five_at R0.out))) rfl ⟨⟨ky, vl, false, 0, 0⟩, orL [x0, y1, y2], t4, rfl, five_far F.out (Ne.symm HNE.out), five_grown G.out (Nat.le_succ _), HOK.out⟩
end Go.Proofs.YtmmjckokjmpfpaaGreat

