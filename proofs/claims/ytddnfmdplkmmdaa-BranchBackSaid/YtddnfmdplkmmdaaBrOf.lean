/-
  Contract of branch.Of: the forks of which a page is the page, or an error where the reader has panicked.
-/
import Derived.Test.YtddnfmdplkmmdaaBrCatch
import Derived.Test.YtddnfmdplkmmdaaBrPage
import Derived.Tactics2
import Derived.Defers
import Derived.Recover
namespace Go.Proofs.Ytddnfmdplkmmdaa
open Go.RowKit
open Go.Lib hiding intOf
set_option linter.unusedVariables false
set_option linter.unusedSimpArgs false
attribute [local go_sem ↓] Go.wp_at_zero Go.wp_at_succ

/-- Two named results in variables of one cell each. -/
theorem results_cell_cell {P : Program} {fn : Func} {p q : Tmp} {ty tq : TypeId} (h : fn.results = #[.cell p ty, .cell q tq]) (tmps : Array Value) (w : World) (g g' : Nat) (u v : Value)
    (hp : tmps.getD p undef = .pointer (some ⟨g, 0, none⟩)) (hq : tmps.getD q undef = .pointer (some ⟨g', 0, none⟩)) (hu : (loadVar ty ⟨g, 0, none⟩).run P w = .ok u w) (hv : (loadVar tq ⟨g', 0, none⟩).run P w = .ok v w) :
    (results fn tmps).run P w = .ok (.tuple #[u, v]) w := by
  have hp' : tmps[p]?.getD undef = .pointer (some ⟨g, 0, none⟩) := by simpa using hp
  have hq' : tmps[q]?.getD undef = .pointer (some ⟨g', 0, none⟩) := by simpa using hq
  simp [results, h, hp', hq', asAddr, hu, hv]
theorem load_errno7 (w : World) (g : Nat) (n : Int) (h : w.cell? ⟨g, 0, none⟩ = some (.int .i64 n)) : (loadVar 27 ⟨g, 0, none⟩).run Try.prog w = .ok (.int .i64 n) w := by
  simp [go_sem, h]
theorem load_fks (w : World) (g : Nat) (v : Value) (h : w.cell? ⟨g, 0, none⟩ = some v) : (loadVar 30 ⟨g, 0, none⟩).run Try.prog w = .ok v w := by
  simp [go_sem, h]
set_option maxRecDepth 100000 in
set_option maxHeartbeats 12800000 in
theorem bof7_any (kd ct : Int) (pg lk ty : Nat) (bd : ByteArray) (w : World) (hbd : bd.size ≤ 100000) :
    Calls Try.prog 11 #[.agg #[.int .i64 kd, .int .i64 ct, .int .u32 pg, .int .u32 lk, .int .u64 ty, .string bd]] w (OfPost7 (readF kd ct pg lk ty bd) w) := by
  have hmf : ∀ (fn : Fn) (first cap : Array Value) (w : World), (Instr.makeFunc fn first cap).run Try.prog w = .ok (.func fn first cap) w := fun _ _ _ _ => rfl
  obtain ⟨hz, hi⟩ := zero_of_info infoPg
  have HI := Lib.hid hi
  clear hi
  have HRd := Lib.hid (readF_is kd ct pg lk ty bd)
  obtain ⟨w0, hw0⟩ : ∃ w0, w0 = ((w.alloc (.cells #[.int .i64 kd, .int .i64 ct, .int .u32 pg, .int .u32 lk, .int .u64 ty, .string bd] 26)).alloc (.cells #[.slice none 0 0] 30)).alloc (.cells #[.int .i64 0] 27) := ⟨_, rfl⟩
  have Pp := Lib.hid (show Blk w0 w.heap.size 26 #[.int .i64 kd, .int .i64 ct, .int .u32 pg, .int .u32 lk, .int .u64 ty, .string bd] by rw [hw0]; exact ((Blk.new _ _ _).alloc _).alloc _)
  have L0 := Lib.hid (show Blk w0 (w.heap.size + 1) 30 #[.slice none 0 0] by
    rw [hw0]
    have := (Blk.new (w.alloc (.cells #[.int .i64 kd, .int .i64 ct, .int .u32 pg, .int .u32 lk, .int .u64 ty, .string bd] 26)) 30 #[.slice none 0 0]).alloc (.cells #[.int .i64 0] 27)
    simpa using this)
  have E0 := Lib.hid (show Blk w0 (w.heap.size + 2) 27 #[.int .i64 0] by
    rw [hw0]
    have := Blk.new ((w.alloc (.cells #[.int .i64 kd, .int .i64 ct, .int .u32 pg, .int .u32 lk, .int .u64 ty, .string bd] 26)).alloc (.cells #[.slice none 0 0] 30)) 27 #[.int .i64 0]
    simpa using this)
  have HB := Lib.hid (show Below w.heap.size w w0 by rw [hw0]; exact (((Below.refl _ _).alloc (Nat.le_refl _) _).alloc (by simp) _).alloc (by simp; omega) _)
  have Hbd := Lib.hid hbd
  have HZ0 := Lib.hid (show w.heap.size + 3 ≤ w0.heap.size by rw [hw0]; simp)
  clear hbd
  go_enter_defers Try.func11, Try.ntmps11
  go_upto_region 2 with fail
  rw [← hw0]
  clear hw0
  have c0 := Pp.out.cell 0
  have c1 := Pp.out.cell 1
  have c2 := Pp.out.cell 2
  have c3 := Pp.out.cell 3
  have c4 := Pp.out.cell 4
  have c5 := Pp.out.cell 5
  simp at c0 c1 c2 c3 c4 c5
  go_wp2_with fail
  refine (bhead_any kd ct pg lk ty bd _ Hbd.out).mono ?_
  rintro e w1 ⟨rfl, hb⟩
  replace Pp := Lib.hid (Pp.out.below hb Pp.out.lt)
  replace L0 := Lib.hid (L0.out.below hb L0.out.lt)
  replace E0 := Lib.hid (E0.out.below hb E0.out.lt)
  replace HB := Lib.hid (HB.out.trans (hb.mono HB.out.size))
  obtain ⟨gR, hgR⟩ : ∃ gR, gR = w1.heap.size := ⟨_, rfl⟩
  have HgR := Lib.hid (show w.heap.size + 3 ≤ gR by rw [hgR]; exact Nat.le_trans HZ0.out hb.size)
  have HgE := Lib.hid hgR
  clear hb c0 c1 c2 c3 c4 c5 hgR HZ0
  rcases hh : headF kd pg lk ty bd with _ | _
  · have HE := Lib.hid (show readF kd ct pg lk ty bd = none by rw [HRd.out, hh]; rfl)
    clear HRd hh
    go_wp2_with fail
    refine (bneed_no _).mono ?_
    rintro e w2 ⟨rfl, rfl⟩
    refine leaves_cons (f := 29) (args := #[.pointer (some ⟨w.heap.size + 1, 0, none⟩), .pointer (some ⟨w.heap.size + 2, 0, none⟩)]) (by simp) (by simp [go_sem]) ?_
    refine (bcatch_bad (w.heap.size + 1) (w.heap.size + 2) _ _ [] _ _ _ L0.out E0.out (by omega)).mono ?_
    rintro e u' w'' ⟨rfl, rfl, rfl⟩
    have L1 := Lib.hid (((L0.out.alloc (.cells #[] 54)).set_ 0 (.slice none 0 0)).far (p := ⟨w.heap.size + 2, 0, none⟩) (show w.heap.size + 1 ≠ w.heap.size + 2 by omega) (.int .i64 4))
    have E1 := Lib.hid (((E0.out.alloc (.cells #[] 54)).far (p := ⟨w.heap.size + 1, 0, none⟩) (show w.heap.size + 2 ≠ w.heap.size + 1 by omega) (.slice none 0 0)).set_ 0 (.int .i64 4))
    have HB1 := Lib.hid (((HB.out.alloc HB.out.size (.cells #[] 54)).setCell (p := ⟨w.heap.size + 1, 0, none⟩) (Nat.le_succ _) (.slice none 0 0)).setCell (p := ⟨w.heap.size + 2, 0, none⟩) (show w.heap.size ≤ w.heap.size + 2 by omega) (.int .i64 4))
    show Leaves _ _ _ _ [] .returning _
    refine ⟨_, results_cell_cell rfl _ _ (w.heap.size + 1) (w.heap.size + 2) (.slice none 0 0) (.int .i64 4) rfl rfl (load_fks _ _ _ (L1.out.cell 0)) (load_errno7 _ _ _ (E1.out.cell 0)), ?_⟩
    rw [HE.out]
    exact ⟨rfl, HB1.out⟩
  · replace HRd := Lib.hid (show readF kd ct pg lk ty bd = forksF ct bd.data.toList by rw [HRd.out, hh]; rfl)
    clear hh
    have c1 := Pp.out.cell 1
    have c5 := Pp.out.cell 5
    simp at c1 c5
    go_wp2_with (go_at_call 30; refine (bneed_yes _).mono ?_; rintro e w' ⟨rfl, rfl⟩)
    refine (new_any' bd _).mono ?_
    rintro e w2 ⟨rfl, hrf, hb, hlt2⟩
    replace Pp := Lib.hid (Pp.out.below hb Pp.out.lt)
    replace L0 := Lib.hid (L0.out.below hb L0.out.lt)
    replace E0 := Lib.hid (E0.out.below hb E0.out.lt)
    replace HB := Lib.hid (HB.out.trans (hb.mono HB.out.size))
    have HF := Lib.hid hrf
    clear hb hrf hlt2 c1 c5
    rw [← HgE.out] at HF ⊢
    clear HgE
    have HBx := Lib.hid (HB.out.alloc HB.out.size (.cells #[.pointer (some ⟨gR, 0, none⟩)] 60))
    obtain ⟨w3, hw3⟩ : ∃ x, x = w2.alloc (.cells #[.pointer (some ⟨gR, 0, none⟩)] 60) := ⟨_, rfl⟩
    have Rx := Lib.hid (show Blk w3 w2.heap.size 60 #[.pointer (some ⟨gR, 0, none⟩)] by rw [hw3]; exact Blk.new _ _ _)
    replace Pp := Lib.hid (show Blk w3 w.heap.size 26 #[.int .i64 kd, .int .i64 ct, .int .u32 pg, .int .u32 lk, .int .u64 ty, .string bd] by rw [hw3]; exact Pp.out.alloc _)
    replace L0 := Lib.hid (show Blk w3 (w.heap.size + 1) 30 #[.slice none 0 0] by rw [hw3]; exact L0.out.alloc _)
    replace E0 := Lib.hid (show Blk w3 (w.heap.size + 2) 27 #[.int .i64 0] by rw [hw3]; exact E0.out.alloc _)
    replace HB := Lib.hid (show Below w.heap.size w w3 by rw [hw3]; exact HBx.out)
    replace HF := Lib.hid (show IsRd w3 gR bd by rw [hw3]; exact Blk.alloc HF.out _)
    go_upto_region 4 with fail
    rw [← hw3]
    have HXl := Lib.hid (show gR < w3.heap.size from Blk.lt HF.out)
    clear hw3 HBx
    generalize w2.heap.size = gX at *
    have c1 := Pp.out.cell 1
    have x0 := Rx.out.cell 0
    simp at c1 x0
    go_wp2_with fail
    refine (bforks_tot HF.out Hbd.out ct).mono ?_
    rintro e w4 ⟨hg, hp⟩
    rw [← HRd.out] at hp
    have hne1 : some (w.heap.size + 1) ≠ some gR := by intro h; injection h with h; have := HgR.out; omega
    have hne2 : some (w.heap.size + 2) ≠ some gR := by intro h; injection h with h; have := HgR.out; omega
    replace L0 := Lib.hid (L0.out.grown hg hne1)
    replace E0 := Lib.hid (E0.out.grown hg hne2)
    replace HB := Lib.hid (HB.out.trans (below_of_grown hg (by have := HgR.out; omega) HB.out.size))
    rcases hr : readF kd ct pg lk ty bd with _ | l
    · rw [hr] at hp
      have he : e = .panicked [{ v := .iface 54 (.agg #[]), recovered := false }] := hp
      subst he
      have HE := Lib.hid hr
      clear hp hg hr
      refine leaves_cons (f := 29) (args := #[.pointer (some ⟨w.heap.size + 1, 0, none⟩), .pointer (some ⟨w.heap.size + 2, 0, none⟩)]) (by simp) (by simp [go_sem]) ?_
      refine (bcatch_bad (w.heap.size + 1) (w.heap.size + 2) _ _ [] _ _ _ L0.out E0.out (by omega)).mono ?_
      rintro e u' w'' ⟨rfl, rfl, rfl⟩
      have L1 := Lib.hid (((L0.out.alloc (.cells #[] 54)).set_ 0 (.slice none 0 0)).far (p := ⟨w.heap.size + 2, 0, none⟩) (show w.heap.size + 1 ≠ w.heap.size + 2 by omega) (.int .i64 4))
      have E1 := Lib.hid (((E0.out.alloc (.cells #[] 54)).far (p := ⟨w.heap.size + 1, 0, none⟩) (show w.heap.size + 2 ≠ w.heap.size + 1 by omega) (.slice none 0 0)).set_ 0 (.int .i64 4))
      have HB1 := Lib.hid (((HB.out.alloc HB.out.size (.cells #[] 54)).setCell (p := ⟨w.heap.size + 1, 0, none⟩) (Nat.le_succ _) (.slice none 0 0)).setCell (p := ⟨w.heap.size + 2, 0, none⟩) (show w.heap.size ≤ w.heap.size + 2 by omega) (.int .i64 4))
      show Leaves _ _ _ _ [] .returning _
      refine ⟨_, results_cell_cell rfl _ _ (w.heap.size + 1) (w.heap.size + 2) (.slice none 0 0) (.int .i64 4) rfl rfl (load_fks _ _ _ (L1.out.cell 0)) (load_errno7 _ _ _ (E1.out.cell 0)), ?_⟩
      exact ⟨rfl, HB1.out⟩
    · rw [hr] at hp
      obtain ⟨A, n, c, rfl, hrd, hnc, hcm, hlo⟩ := hp
      have HE := Lib.hid hr
      have HRw := Lib.hid hrd
      have HC := Lib.hid hnc
      have HMx := Lib.hid hcm
      clear hg hr hrd hnc hcm c1 x0
      have k0 := L0.out.cell 0
      have f0 := L0.out.frozen 0
      simp at k0
      have E1 := Lib.hid (E0.out.far (p := ⟨w.heap.size + 1, 0, none⟩) (show w.heap.size + 2 ≠ w.heap.size + 1 by omega) (.slice A n c))
      have L1 := Lib.hid (L0.out.set_ 0 (.slice A n c))
      have HB1 := Lib.hid (HB.out.setCell (p := ⟨w.heap.size + 1, 0, none⟩) (Nat.le_succ _) (.slice A n c))
      have k1 := E1.out.cell 0
      have f1 := E1.out.frozen 0
      simp at k1
      have HR1 := Lib.hid (show Reads ((w4.setCell ⟨w.heap.size + 1, 0, none⟩ (.slice A n c)).setCell ⟨w.heap.size + 2, 0, none⟩ (.int .i64 0)) ((w4.setCell ⟨w.heap.size + 1, 0, none⟩ (.slice A n c)).setCell ⟨w.heap.size + 2, 0, none⟩ (.int .i64 0)).heap.size 2 A n (fkc l) by
        have hgg := HgR.out
        have hxx := HXl.out
        refine (HRw.out.keep_from hlo fun p hp => ?_).more (by simp [World.setCell])
        rw [World.cell?_setCell_other _ _ _ _ (fun e => by subst e; simp at hp; omega), World.cell?_setCell_other _ _ _ _ (fun e => by subst e; simp at hp; omega)])
      have L2 := Lib.hid (L1.out.far (p := ⟨w.heap.size + 2, 0, none⟩) (show w.heap.size + 1 ≠ w.heap.size + 2 by omega) (.int .i64 0))
      have E2 := Lib.hid (E1.out.set_ 0 (.int .i64 0))
      have HB2 := Lib.hid (HB1.out.setCell (p := ⟨w.heap.size + 2, 0, none⟩) (show w.heap.size ≤ w.heap.size + 2 by omega) (.int .i64 0))
      clear hlo
      go_wp2_with fail
      refine leaves_cons (f := 29) (args := #[.pointer (some ⟨w.heap.size + 1, 0, none⟩), .pointer (some ⟨w.heap.size + 2, 0, none⟩)]) (by simp) (by simp [go_sem]) ?_
      refine (bcatch_idle ⟨w.heap.size + 1, 0, none⟩ ⟨w.heap.size + 2, 0, none⟩ _).mono ?_
      rintro e u' w'' ⟨rfl, rfl, rfl⟩
      show Leaves _ _ _ _ [] .returning _
      refine ⟨_, results_cell_cell rfl _ _ (w.heap.size + 1) (w.heap.size + 2) (.slice A n c) (.int .i64 0) rfl rfl (load_fks _ _ _ (L2.out.cell 0)) (load_errno7 _ _ _ (E2.out.cell 0)), ?_⟩
      (try rw [HE.out])
      exact ⟨A, n, c, rfl, HR1.out, HC.out, HMx.out, HB2.out⟩
end Go.Proofs.Ytddnfmdplkmmdaa
