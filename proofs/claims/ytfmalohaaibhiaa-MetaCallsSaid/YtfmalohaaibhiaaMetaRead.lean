/-
  Contract of package meta's read: the meta that a page could be the page of.
-/
import Derived.Test.YtfmalohaaibhiaaMetaPage
import Derived.Test.YtfmalohaaibhiaaFrameAll
import Derived.Deep.RegionHeld3
import Derived.Deep.DrawnRows
namespace Go.Proofs.Ytfmalohaaibhiaa
open Go.RowKit
open Go.Lib
set_option linter.unusedVariables false
set_option linter.unusedSimpArgs false
attribute [local go_sem ↓] Go.wp_at_zero Go.wp_at_succ

theorem grown_same {w : World} (g : Option Nat) : w.grownBy w g := World.grownBy.refl w g
/-- A number is taken off a reader, or it is too short, and nothing is. -/
theorem onum_at {w : World} {g : Nat} {t : ByteArray} (h : IsRd w g t) (k : Nat) (h1 : 1 ≤ k) (h2 : k ≤ 8) :
    Calls Try.prog 49 #[.pointer (some ⟨g, 0, none⟩), .int .i64 k] w fun e w' => ∃ (v : Nat) (x : Int) (t' : ByteArray), e = .returned (.tuple #[.int .u64 v, .int .i64 x]) ∧ IsRd w' g t' ∧ w.grownBy w' (some g) ∧ v < 2 ^ (8 * k) ∧ (k ≤ t.size → v = leNat (t.data.toList.take k) ∧ t' = t.extract k t.size) := by
  by_cases hk : k ≤ t.size
  · refine (number_ok' h k h1 h2 hk).mono ?_
    rintro e w' ⟨rfl, hr, hg⟩
    refine ⟨_, _, _, rfl, hr, hg, ?_, fun _ => ⟨rfl, rfl⟩⟩
    have h3 := leNat_lt (t.data.toList.take k)
    have h4 : (t.data.toList.take k).length ≤ k := by rw [List.length_take]; omega
    exact Nat.lt_of_lt_of_le h3 (Nat.pow_le_pow_right (by omega) (by omega))
  · refine (number_more h k (by omega) (by omega) (by omega)).mono ?_
    rintro e w' ⟨rfl, rfl⟩
    exact ⟨0, 7, t, rfl, h, grown_same _, Nat.two_pow_pos _, fun h => absurd h hk⟩
theorem obytes_at {w : World} {g : Nat} {t : ByteArray} (h : IsRd w g t) (k : Nat) :
    Calls Try.prog 47 #[.pointer (some ⟨g, 0, none⟩), .int .i64 k] w fun e w' => ∃ (v : ByteArray) (x : Int) (t' : ByteArray), e = .returned (.tuple #[.string v, .int .i64 x]) ∧ IsRd w' g t' ∧ w.grownBy w' (some g) ∧ (k ≤ t.size → t' = t.extract k t.size) := by
  by_cases hk : k ≤ t.size
  · refine (bytes_ok' h k hk).mono ?_
    rintro e w' ⟨rfl, hr, hg⟩
    exact ⟨_, _, _, rfl, hr, hg, fun _ => rfl⟩
  · refine (bytes_more h k (by omega)).mono ?_
    rintro e w' ⟨rfl, rfl⟩
    exact ⟨_, _, t, rfl, h, grown_same _, fun h => absurd h hk⟩
theorem clo_at {w : World} {g c : Nat} {t : ByteArray} (h : IsRd w g t) (hc : w.cell? ⟨c, 0, none⟩ = some (.pointer (some ⟨g, 0, none⟩))) (k : Nat) (h1 : 1 ≤ k) (h2 : k ≤ 8) :
    Calls Try.prog 48 #[.int .i64 k, .pointer (some ⟨c, 0, none⟩)] w fun e w' => ∃ (v : Nat) (t' : ByteArray), e = .returned (.int .u64 v) ∧ IsRd w' g t' ∧ w.grownBy w' (some g) ∧ v < 2 ^ (8 * k) ∧ (k ≤ t.size → v = leNat (t.data.toList.take k) ∧ t' = t.extract k t.size) := by
  go_enter Try.func48, Try.ntmps48
  go_wp2_with fail
  refine (onum_at h k h1 h2).mono ?_
  rintro e w1 ⟨v, x, t', rfl, hr, hg, hv, hx⟩
  go_wp2_with fail
  go_ret
  exact ⟨v, t', rfl, hr, hg, hv, hx⟩
theorem infoMt : (Try.prog.info? 31).map (fun i => (i.zero, i.size)) = some (some (.agg #[.int .u64 0, .int .i64 0, .int .u32 0, .int .u32 0, .int .u32 0]), 5) := by kernel_rfl
theorem five_at {w : World} {b : Nat} {t : TypeId} {z0 z1 z2 z3 z4 a0 a1 a2 a3 a4 : Value} (h : Blk w b t #[z0, z1, z2, z3, z4]) : Blk (((((w.setCell ⟨b, 0, none⟩ a0).setCell ⟨b, 1, none⟩ a1).setCell ⟨b, 2, none⟩ a2).setCell ⟨b, 3, none⟩ a3).setCell ⟨b, 4, none⟩ a4) b t #[a0, a1, a2, a3, a4] :=
  ((((h.set_ 0 a0).set_ 1 a1).set_ 2 a2).set_ 3 a3).set_ 4 a4
theorem five_far {w : World} {g b : Nat} {t : TypeId} {cs : Array Value} {a0 a1 a2 a3 a4 : Value} (h : Blk w g t cs) (hne : g ≠ b) : Blk (((((w.setCell ⟨b, 0, none⟩ a0).setCell ⟨b, 1, none⟩ a1).setCell ⟨b, 2, none⟩ a2).setCell ⟨b, 3, none⟩ a3).setCell ⟨b, 4, none⟩ a4) g t cs :=
  ((((h.far hne a0).far hne a1).far hne a2).far hne a3).far hne a4
theorem five_below {w0 w : World} {B b : Nat} {a0 a1 a2 a3 a4 : Value} (h : Below B w0 w) (hb : B ≤ b) : Below B w0 (((((w.setCell ⟨b, 0, none⟩ a0).setCell ⟨b, 1, none⟩ a1).setCell ⟨b, 2, none⟩ a2).setCell ⟨b, 3, none⟩ a3).setCell ⟨b, 4, none⟩ a4) :=
  ((((h.setCell hb a0).setCell hb a1).setCell hb a2).setCell hb a3).setCell hb a4
theorem load_meta {w : World} {g : Nat} {a0 a1 a2 a3 a4 : Value} (h : Blk w g 31 #[a0, a1, a2, a3, a4]) : (loadVar 31 ⟨g, 0, none⟩).run Try.prog w = .ok (.agg #[a0, a1, a2, a3, a4]) w := by
  obtain ⟨hz, hi⟩ := zero_of_info infoMt
  exact run_loadVar_row w g 31 31 #[a0, a1, a2, a3, a4] (0, 0) _ h Try.underlying31 rfl hi

set_option maxRecDepth 100000 in
set_option maxHeartbeats 3200000 in
theorem mread_any (kd ct : Int) (pg lk tx : Nat) (bd : ByteArray) (w : World) :
    Calls Try.prog 29 #[.agg #[.int .i64 kd, .int .i64 ct, .int .u32 pg, .int .u32 lk, .int .u64 tx, .string bd]] w fun e w' => ∃ z rt fr ps : Nat, e = .returned (.agg #[.int .u64 tx, .int .i64 z, .int .u32 rt, .int .u32 fr, .int .u32 ps]) ∧ Below w.heap.size w w' ∧ z < 65536 ∧ rt < 4294967296 ∧ fr < 4294967296 ∧ ps < 4294967296 ∧
      (22 ≤ bd.size → z = numAt bd 8 2 ∧ rt = numAt bd 10 4 ∧ fr = numAt bd 14 4 ∧ ps = numAt bd 18 4) := by
  obtain ⟨hz, hi⟩ := zero_of_info infoMt
  have HI := Lib.hid hi
  clear hi
  have hmf : ∀ (fn : Fn) (first cap : Array Value) (w : World), (Instr.makeFunc fn first cap).run Try.prog w = .ok (.func fn first cap) w := fun _ _ _ _ => rfl
  obtain ⟨w0, hw0⟩ : ∃ w0, w0 = (w.alloc (.cells #[.int .i64 kd, .int .i64 ct, .int .u32 pg, .int .u32 lk, .int .u64 tx, .string bd] 26)).alloc (.cells #[.int .u64 0, .int .i64 0, .int .u32 0, .int .u32 0, .int .u32 0] 31) := ⟨_, rfl⟩
  have P0 := Lib.hid (show Blk w0 w.heap.size 26 #[.int .i64 kd, .int .i64 ct, .int .u32 pg, .int .u32 lk, .int .u64 tx, .string bd] by rw [hw0]; exact (Blk.new _ _ _).alloc _)
  have R0 := Lib.hid (show Blk w0 (w.heap.size + 1) 31 #[.int .u64 0, .int .i64 0, .int .u32 0, .int .u32 0, .int .u32 0] by rw [hw0, show w.heap.size + 1 = (w.alloc (.cells #[.int .i64 kd, .int .i64 ct, .int .u32 pg, .int .u32 lk, .int .u64 tx, .string bd] 26)).heap.size by simp]; exact Blk.new _ _ _)
  have HB := Lib.hid (show Below w.heap.size w w0 by rw [hw0]; exact ((Below.refl _ _).alloc (Nat.le_refl _) _).alloc (by simp) _)
  have c5 := P0.out.cell 5
  rw [hw0] at c5
  simp at c5
  go_enter Try.func29, Try.ntmps29
  go_wp2_with fail
  rw [← hw0]
  clear c5
  have hsz : w0.heap.size = w.heap.size + 2 := by rw [hw0]; simp
  clear hw0
  refine (new_any' bd _).mono ?_
  rintro e w1 ⟨rfl, hr, hb, hlt⟩
  replace HB := Lib.hid (HB.out.trans (hb.mono HB.out.size))
  replace R0 := Lib.hid (R0.out.below hb R0.out.lt)
  replace P0 := Lib.hid (P0.out.below hb P0.out.lt)
  rw [hsz] at hr hlt
  go_wp2_with fail
  obtain ⟨W1, hW1⟩ : ∃ W1, W1 = w1.alloc (.cells #[.pointer (some ⟨w.heap.size + 2, 0, none⟩)] 76) := ⟨_, rfl⟩
  rw [← hW1]
  have C0 := Lib.hid (show Blk W1 w1.heap.size 76 #[.pointer (some ⟨w.heap.size + 2, 0, none⟩)] by rw [hW1]; exact Blk.new _ _ _)
  have RD := Lib.hid (show IsRd W1 (w.heap.size + 2) bd by rw [hW1]; exact Blk.alloc hr _)
  replace HB := Lib.hid (show Below w.heap.size w W1 by rw [hW1]; exact HB.out.alloc HB.out.size _)
  replace R0 := Lib.hid (show Blk W1 (w.heap.size + 1) _ _ by rw [hW1]; exact R0.out.alloc _)
  replace P0 := Lib.hid (show Blk W1 w.heap.size _ _ by rw [hW1]; exact P0.out.alloc _)
  have hc9 : w.heap.size + 2 < w1.heap.size := hlt
  obtain ⟨cb, hcb⟩ : ∃ cb, cb = w1.heap.size := ⟨_, rfl⟩
  rw [← hcb] at C0 hc9 ⊢
  have HC := Lib.hid hc9
  clear hW1 hr hb hlt hc9 hcb
  refine (obytes_at RD.out 8).mono ?_
  rintro e w2 ⟨x0, x1, t0, rfl, hr, hg, ht⟩
  have T0 := Lib.hid ht
  clear ht
  replace RD := Lib.hid hr
  replace HB := Lib.hid (HB.out.grown hg HB.out.size (by rintro k ⟨⟩; omega))
  replace R0 := Lib.hid (R0.out.grown hg (by intro h; injection h with h; omega))
  replace P0 := Lib.hid (P0.out.grown hg (by intro h; injection h with h; omega))
  replace C0 := Lib.hid (C0.out.grown hg (by intro h; injection h with h; have := HC.out; omega))
  clear hr hg
  have c4 := P0.out.cell 4
  have cc := C0.out.cell 0
  simp at c4 cc
  go_wp2_with fail
  obtain ⟨W2, hW2⟩ : ∃ W2, W2 = w2.alloc (.cells #[.int .u64 tx, .int .i64 0, .int .u32 0, .int .u32 0, .int .u32 0] 31) := ⟨_, rfl⟩
  rw [← hW2]
  have M0 := Lib.hid (show Blk W2 w2.heap.size 31 #[.int .u64 tx, .int .i64 0, .int .u32 0, .int .u32 0, .int .u32 0] by rw [hW2]; exact Blk.new _ _ _)
  replace RD := Lib.hid (show IsRd W2 (w.heap.size + 2) t0 by rw [hW2]; exact Blk.alloc RD.out _)
  replace HB := Lib.hid (show Below w.heap.size w W2 by rw [hW2]; exact HB.out.alloc HB.out.size _)
  replace R0 := Lib.hid (show Blk W2 (w.heap.size + 1) _ _ by rw [hW2]; exact R0.out.alloc _)
  have hcl : cb < w2.heap.size := C0.out.lt
  replace C0 := Lib.hid (show Blk W2 cb _ _ by rw [hW2]; exact C0.out.alloc _)
  obtain ⟨mb, hmb⟩ : ∃ mb, mb = w2.heap.size := ⟨_, rfl⟩
  rw [← hmb] at M0 hcl ⊢
  have HM := Lib.hid hcl
  clear hW2 hmb hcl c4 cc P0
  refine (clo_at RD.out (C0.out.cell 0) 2 (by omega) (by omega)).mono ?_
  rintro e w3 ⟨z, t1, rfl, hr, hg, hv0, ht⟩
  have T1 := Lib.hid ht
  clear ht
  replace RD := Lib.hid hr
  replace HB := Lib.hid (HB.out.grown hg HB.out.size (by rintro k ⟨⟩; omega))
  replace R0 := Lib.hid (R0.out.grown hg (by intro h; injection h with h; omega))
  replace C0 := Lib.hid (C0.out.grown hg (by intro h; injection h with h; have := HC.out; omega))
  replace M0 := Lib.hid (M0.out.grown hg (by intro h; injection h with h; have := HC.out; have := HM.out; omega))
  clear hr hg
  have cv : IntKind.i64.wrap (z : Int) = (z : Int) := by rw [IntKind.wrap_i64]; omega
  have cc := C0.out.cell 0
  have m1 := M0.out.cell 1
  have f1 := M0.out.frozen 1
  simp at cc m1
  go_wp2_with fail
  obtain ⟨X0, hX⟩ : ∃ X, X = w3.setCell ⟨mb, 1, none⟩ (.int .i64 z) := ⟨_, rfl⟩
  rw [← hX]
  replace M0 := Lib.hid (show Blk X0 mb 31 #[.int .u64 tx, .int .i64 z, .int .u32 0, .int .u32 0, .int .u32 0] by rw [hX]; exact M0.out.set_ 1 _)
  replace RD := Lib.hid (show IsRd X0 (w.heap.size + 2) t1 by rw [hX]; exact Blk.far RD.out (by have := HC.out; have := HM.out; show _ ≠ mb; omega) _)
  replace HB := Lib.hid (show Below w.heap.size w X0 by rw [hX]; exact HB.out.setCell (by have := HC.out; have := HM.out; show _ ≤ mb; omega) _)
  replace R0 := Lib.hid (show Blk X0 (w.heap.size + 1) _ _ by rw [hX]; exact R0.out.far (by have := HC.out; have := HM.out; show _ ≠ mb; omega) _)
  replace C0 := Lib.hid (show Blk X0 cb _ _ by rw [hX]; exact C0.out.far (by have := HM.out; show _ ≠ mb; omega) _)
  clear hX cc m1 f1 cv
  refine (clo_at RD.out (C0.out.cell 0) 4 (by omega) (by omega)).mono ?_
  rintro e w4 ⟨rt, t2, rfl, hr, hg, hv1, ht⟩
  have T2 := Lib.hid ht
  clear ht
  replace RD := Lib.hid hr
  replace HB := Lib.hid (HB.out.grown hg HB.out.size (by rintro k ⟨⟩; omega))
  replace R0 := Lib.hid (R0.out.grown hg (by intro h; injection h with h; omega))
  replace C0 := Lib.hid (C0.out.grown hg (by intro h; injection h with h; have := HC.out; omega))
  replace M0 := Lib.hid (M0.out.grown hg (by intro h; injection h with h; have := HC.out; have := HM.out; omega))
  clear hr hg
  have cv : IntKind.u32.wrap (rt : Int) = (rt : Int) := by rw [IntKind.wrap_u32]; omega
  have cc := C0.out.cell 0
  have m2 := M0.out.cell 2
  have f2 := M0.out.frozen 2
  simp at cc m2
  go_wp2_with fail
  obtain ⟨X1, hX⟩ : ∃ X, X = w4.setCell ⟨mb, 2, none⟩ (.int .u32 rt) := ⟨_, rfl⟩
  rw [← hX]
  replace M0 := Lib.hid (show Blk X1 mb 31 #[.int .u64 tx, .int .i64 z, .int .u32 rt, .int .u32 0, .int .u32 0] by rw [hX]; exact M0.out.set_ 2 _)
  replace RD := Lib.hid (show IsRd X1 (w.heap.size + 2) t2 by rw [hX]; exact Blk.far RD.out (by have := HC.out; have := HM.out; show _ ≠ mb; omega) _)
  replace HB := Lib.hid (show Below w.heap.size w X1 by rw [hX]; exact HB.out.setCell (by have := HC.out; have := HM.out; show _ ≤ mb; omega) _)
  replace R0 := Lib.hid (show Blk X1 (w.heap.size + 1) _ _ by rw [hX]; exact R0.out.far (by have := HC.out; have := HM.out; show _ ≠ mb; omega) _)
  replace C0 := Lib.hid (show Blk X1 cb _ _ by rw [hX]; exact C0.out.far (by have := HM.out; show _ ≠ mb; omega) _)
  clear hX cc m2 f2 cv
  refine (clo_at RD.out (C0.out.cell 0) 4 (by omega) (by omega)).mono ?_
  rintro e w5 ⟨fr, t3, rfl, hr, hg, hv2, ht⟩
  have T3 := Lib.hid ht
  clear ht
  replace RD := Lib.hid hr
  replace HB := Lib.hid (HB.out.grown hg HB.out.size (by rintro k ⟨⟩; omega))
  replace R0 := Lib.hid (R0.out.grown hg (by intro h; injection h with h; omega))
  replace C0 := Lib.hid (C0.out.grown hg (by intro h; injection h with h; have := HC.out; omega))
  replace M0 := Lib.hid (M0.out.grown hg (by intro h; injection h with h; have := HC.out; have := HM.out; omega))
  clear hr hg
  have cv : IntKind.u32.wrap (fr : Int) = (fr : Int) := by rw [IntKind.wrap_u32]; omega
  have cc := C0.out.cell 0
  have m3 := M0.out.cell 3
  have f3 := M0.out.frozen 3
  simp at cc m3
  go_wp2_with fail
  obtain ⟨X2, hX⟩ : ∃ X, X = w5.setCell ⟨mb, 3, none⟩ (.int .u32 fr) := ⟨_, rfl⟩
  rw [← hX]
  replace M0 := Lib.hid (show Blk X2 mb 31 #[.int .u64 tx, .int .i64 z, .int .u32 rt, .int .u32 fr, .int .u32 0] by rw [hX]; exact M0.out.set_ 3 _)
  replace RD := Lib.hid (show IsRd X2 (w.heap.size + 2) t3 by rw [hX]; exact Blk.far RD.out (by have := HC.out; have := HM.out; show _ ≠ mb; omega) _)
  replace HB := Lib.hid (show Below w.heap.size w X2 by rw [hX]; exact HB.out.setCell (by have := HC.out; have := HM.out; show _ ≤ mb; omega) _)
  replace R0 := Lib.hid (show Blk X2 (w.heap.size + 1) _ _ by rw [hX]; exact R0.out.far (by have := HC.out; have := HM.out; show _ ≠ mb; omega) _)
  replace C0 := Lib.hid (show Blk X2 cb _ _ by rw [hX]; exact C0.out.far (by have := HM.out; show _ ≠ mb; omega) _)
  clear hX cc m3 f3 cv
  refine (clo_at RD.out (C0.out.cell 0) 4 (by omega) (by omega)).mono ?_
  rintro e w6 ⟨ps, t4, rfl, hr, hg, hv3, ht⟩
  have T4 := Lib.hid ht
  clear ht
  replace RD := Lib.hid hr
  replace HB := Lib.hid (HB.out.grown hg HB.out.size (by rintro k ⟨⟩; omega))
  replace R0 := Lib.hid (R0.out.grown hg (by intro h; injection h with h; omega))
  replace C0 := Lib.hid (C0.out.grown hg (by intro h; injection h with h; have := HC.out; omega))
  replace M0 := Lib.hid (M0.out.grown hg (by intro h; injection h with h; have := HC.out; have := HM.out; omega))
  clear hr hg
  have cv : IntKind.u32.wrap (ps : Int) = (ps : Int) := by rw [IntKind.wrap_u32]; omega
  have cc := C0.out.cell 0
  have m4 := M0.out.cell 4
  have f4 := M0.out.frozen 4
  simp at cc m4
  have mx := M0.out.set_ 4 (.int .u32 ps)
  have b0 := mx.cell 0
  have b1 := mx.cell 1
  have b2 := mx.cell 2
  have b3 := mx.cell 3
  have b4 := mx.cell 4
  have rx := R0.out.far (show w.heap.size + 1 ≠ (⟨mb, 4, none⟩ : Addr).block by have := HC.out; have := HM.out; show _ ≠ mb; omega) (.int .u32 ps)
  have RX := Lib.hid rx
  have k0 := rx.cell 0
  have k1 := rx.cell 1
  have k2 := rx.cell 2
  have k3 := rx.cell 3
  have k4 := rx.cell 4
  have g0 := rx.frozen 0
  have g1 := rx.frozen 1
  have g2 := rx.frozen 2
  have g3 := rx.frozen 3
  have g4 := rx.frozen 4
  simp at b0 b1 b2 b3 b4 k0 k1 k2 k3 k4
  clear mx rx
  go_wp2_with fail
  refine bodyPost_ret (results_cell_row rfl _ _ (w.heap.size + 1) 31 #[.int .u64 tx, .int .i64 z, .int .u32 rt, .int .u32 fr, .int .u32 ps] (0, 0) _ rfl (five_at RX.out) Try.underlying31 rfl HI.out) rfl ⟨z, rt, fr, ps, rfl, five_below (HB.out.setCell (by have := HC.out; have := HM.out; show _ ≤ mb; omega) _) (Nat.le_succ _), hv0, hv1, hv2, hv3, fun hb => ?_⟩
  have q0 := T0.out (by omega)
  subst q0
  have z0 : (bd.extract 8 bd.size).size = bd.size - 8 := by rw [ByteArray.size_extract]; omega
  obtain ⟨e1, q1⟩ := T1.out (by omega)
  rw [ext_rest bd 8 2 (by omega)] at q1
  subst q1
  obtain ⟨e2, q2⟩ := T2.out (by rw [ByteArray.size_extract]; omega)
  rw [ext_rest bd 10 4 (by omega)] at q2
  subst q2
  obtain ⟨e3, q3⟩ := T3.out (by rw [ByteArray.size_extract]; omega)
  rw [ext_rest bd 14 4 (by omega)] at q3
  subst q3
  obtain ⟨e4, q4⟩ := T4.out (by rw [ByteArray.size_extract]; omega)
  rw [drop_ext] at e1 e2 e3 e4
  exact ⟨e1, e2, e3, e4⟩
end Go.Proofs.Ytfmalohaaibhiaa
