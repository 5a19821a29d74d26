/-
  Contracts of package leaf's reader: a text, a value in place, what is told of one in a chain, an item.
-/
import Derived.Test.YtinojpcjbjjlbaaJ32
import Derived.Test.YtinojpcjbjjlbaaJ33
import Derived.Test.YtinojpcjbjjlbaaJ23
import Derived.Deep.CutRange
import Derived.Deep.RegionHeld3
namespace Go.Proofs.Ytinojpcjbjjlbaa
open Go.RowKit
open Go.Lib hiding intOf
set_option linter.unusedVariables false
set_option linter.unusedSimpArgs false
attribute [local go_sem ↓] Go.wp_at_zero Go.wp_at_succ

theorem gr_below {w w' : World} {r : Option Nat} (h : Below w.heap.size w w') : w.grownBy w' r := ⟨h.os, h.tape, h.output, h.size, fun k hk _ => h.block k hk⟩
theorem gr_own {a b c : World} {r r' : Option Nat} (h1 : a.grownBy b r) (h2 : b.grownBy c r') (h : ∀ k, r' = some k → a.heap.size ≤ k) : a.grownBy c r :=
  ⟨h2.os.trans h1.os, h2.tape.trans h1.tape, h2.output.trans h1.output, Nat.le_trans h1.size h2.size, fun k hk hne => (h2.block k (Nat.lt_of_lt_of_le hk h1.size) (fun he => by have := h k he.symm; omega)).trans (h1.block k hk hne)⟩
theorem lby_tot {w : World} {g : Nat} {t : ByteArray} (h : IsRd w g t) (k : Nat) :
    Calls Try.prog 57 #[.pointer (some ⟨g, 0, none⟩), .int .i64 k] w fun e w' => ∃ (v : ByteArray) (x : Int) (t' : ByteArray), e = .returned (.tuple #[.string v, .int .i64 x]) ∧ IsRd w' g t' ∧ w.grownBy w' (some g) ∧ tookB k t v x t' ∧ v.size ≤ t.size := by
  by_cases hk : k ≤ t.size
  · refine (bytes_ok' h k hk).mono ?_
    rintro e w' ⟨rfl, hr, hg⟩
    exact ⟨_, _, _, rfl, hr, hg, .inl ⟨hk, rfl, rfl, rfl⟩, by rw [ByteArray.size_extract]; omega⟩
  · refine (bytes_more h k (by omega)).mono ?_
    rintro e w' ⟨rfl, rfl⟩
    exact ⟨_, _, t, rfl, h, World.grownBy.refl _ _, .inr ⟨by omega, rfl, rfl⟩, Nat.zero_le _⟩
theorem infoItz : (Try.prog.info? 35).map (fun i => (i.zero, i.size)) = some (some (.agg #[.string ByteArray.empty, .string ByteArray.empty, .bool false, .int .i64 0, .int .u32 0]), 5) := by kernel_rfl
theorem load_it {w : World} {g : Nat} {a0 a1 a2 a3 a4 : Value} (h : Blk w g 35 #[a0, a1, a2, a3, a4]) : (loadVar 35 ⟨g, 0, none⟩).run Try.prog w = .ok (.agg #[a0, a1, a2, a3, a4]) w := by
  obtain ⟨hz, hi⟩ := zero_of_info infoItz
  exact run_loadVar_row w g 35 35 #[a0, a1, a2, a3, a4] (0, 0) _ h Try.underlying35 rfl hi
theorem five_at {w : World} {b : Nat} {t : TypeId} {z0 z1 z2 z3 z4 a0 a1 a2 a3 a4 : Value} (h : Blk w b t #[z0, z1, z2, z3, z4]) : Blk (((((w.setCell ⟨b, 0, none⟩ a0).setCell ⟨b, 1, none⟩ a1).setCell ⟨b, 2, none⟩ a2).setCell ⟨b, 3, none⟩ a3).setCell ⟨b, 4, none⟩ a4) b t #[a0, a1, a2, a3, a4] :=
  ((((h.set_ 0 a0).set_ 1 a1).set_ 2 a2).set_ 3 a3).set_ 4 a4
theorem five_far {w : World} {g b : Nat} {t : TypeId} {cs : Array Value} {a0 a1 a2 a3 a4 : Value} (h : Blk w g t cs) (hne : g ≠ b) : Blk (((((w.setCell ⟨b, 0, none⟩ a0).setCell ⟨b, 1, none⟩ a1).setCell ⟨b, 2, none⟩ a2).setCell ⟨b, 3, none⟩ a3).setCell ⟨b, 4, none⟩ a4) g t cs :=
  ((((h.far (p := ⟨b, 0, none⟩) hne a0).far (p := ⟨b, 1, none⟩) hne a1).far (p := ⟨b, 2, none⟩) hne a2).far (p := ⟨b, 3, none⟩) hne a3).far (p := ⟨b, 4, none⟩) hne a4
theorem five_grown {w0 w : World} {r : Option Nat} {b : Nat} {a0 a1 a2 a3 a4 : Value} (h : w0.grownBy w r) (hb : w0.heap.size ≤ b) : w0.grownBy (((((w.setCell ⟨b, 0, none⟩ a0).setCell ⟨b, 1, none⟩ a1).setCell ⟨b, 2, none⟩ a2).setCell ⟨b, 3, none⟩ a3).setCell ⟨b, 4, none⟩ a4) r :=
  grown_cell (grown_cell (grown_cell (grown_cell (grown_cell h (p := ⟨b, 0, none⟩) hb a0) (p := ⟨b, 1, none⟩) hb a1) (p := ⟨b, 2, none⟩) hb a2) (p := ⟨b, 3, none⟩) hb a3) (p := ⟨b, 4, none⟩) hb a4
set_option maxRecDepth 100000 in
set_option maxHeartbeats 3200000 in
theorem ltext_raw {w : World} {g : Nat} {s : ByteArray} (h : IsRd w g s) (hs : s.size ≤ 100000) :
    Calls Try.prog 50 #[.agg #[.pointer (some ⟨g, 0, none⟩)]] w fun e w' => ∃ (n : Nat) (x1 x2 : Int) (t1 v t2 : ByteArray), e = .returned (.tuple #[.string v, .int .i64 (orL [x1, x2])]) ∧ IsRd w' g t2 ∧ w.grownBy w' (some g) ∧ tookN 1 s n x1 t1 ∧ tookB n t1 v x2 t2 := by
  obtain ⟨w0, hw0⟩ : ∃ x, x = w.alloc (.cells #[.pointer (some ⟨g, 0, none⟩)] 58) := ⟨_, rfl⟩
  have Bx := Lib.hid (show Blk w0 w.heap.size 58 #[.pointer (some ⟨g, 0, none⟩)] by rw [hw0]; exact Blk.new _ _ _)
  have F := Lib.hid (show IsRd w0 g s by rw [hw0]; exact Blk.alloc h _)
  have G := Lib.hid (show w.grownBy w0 (some g) by rw [hw0]; exact World.grownBy_alloc _ _ _)
  have HNE := Lib.hid (show w.heap.size ≠ g by have := Blk.lt h; omega)
  have Hs := Lib.hid hs
  clear h hs
  go_enter Try.func50, Try.ntmps50
  go_upto_region 1 with fail
  rw [← hw0]
  clear hw0
  have b0 := Bx.out.cell 0
  simp at b0
  go_wp2_with fail
  refine (cnum_tot F.out 1 (by decide) (by decide)).mono ?_
  rintro e w1 ⟨n, x1, t1, rfl, hf, hg, hv, hx⟩
  replace Bx := Lib.hid (Blk.grown Bx.out hg (fun e => HNE.out (by injection e)))
  replace F := Lib.hid hf
  replace G := Lib.hid (grown_trans G.out hg)
  have X1 := Lib.hid hx
  have hv' : n < 256 := hv
  clear hf hg hx hv b0
  have hwv : IntKind.i64.wrap (n : Int) = (n : Int) := by rw [IntKind.wrap_i64]; omega
  have b0 := Bx.out.cell 0
  simp at b0
  go_wp2_with fail
  refine (lby_tot F.out n).mono ?_
  rintro e w2 ⟨v, x2, t2, rfl, hf, hg, hx, hvs⟩
  replace F := Lib.hid hf
  replace G := Lib.hid (grown_trans G.out hg)
  have X2 := Lib.hid hx
  have hv2 : v.size ≤ 281474976710656 := by
    have h1 := tookN_le X1.out
    have h2 := Hs.out
    omega
  clear hf hg hx hwv hv' b0 hvs
  go_wp2_with fail
  refine (sclone_any v _ hv2).mono ?_
  rintro e w3 ⟨rfl, hb⟩
  replace F := Lib.hid (show IsRd w3 g t2 from Blk.below F.out hb (Blk.lt F.out))
  replace G := Lib.hid (grown_trans G.out (gr_below hb))
  clear hb hv2
  have E := Lib.hid (show Reads (w3.alloc (.cells #[.int .i64 x1, .int .i64 x2] 27)) (w3.alloc (.cells #[.int .i64 x1, .int .i64 x2] 27)).heap.size 1 (some ⟨w3.heap.size, 0, none⟩) 2 (ecells [x1, x2]) from (reads_own (n := 2) (Blk.new w3 27 #[.int .i64 x1, .int .i64 x2]) rfl).more (by simp))
  replace F := Lib.hid (show IsRd (w3.alloc (.cells #[.int .i64 x1, .int .i64 x2] 27)) g t2 from Blk.alloc F.out _)
  replace G := Lib.hid (grown_trans G.out (World.grownBy_alloc w3 (.cells #[.int .i64 x1, .int .i64 x2] 27) _))
  go_wp2_with fail
  refine (cor_any _ 2 2 [x1, x2] _ E.out (by decide)).mono ?_
  rintro e wq ⟨rfl, rfl⟩
  go_wp2_with fail
  go_ret2
  exact ⟨n, x1, x2, t1, v, t2, rfl, F.out, G.out, X1.out, X2.out⟩
set_option maxRecDepth 100000 in
set_option maxHeartbeats 3200000 in
theorem lplace_raw {w : World} {g : Nat} {s : ByteArray} (h : IsRd w g s) (hs : s.size ≤ 100000) (ky : ByteArray) :
    Calls Try.prog 51 #[.agg #[.pointer (some ⟨g, 0, none⟩)], .string ky] w fun e w' => ∃ (n : Nat) (x1 x2 : Int) (t1 v t2 : ByteArray), e = .returned (.tuple #[.agg #[.string ky, .string v, .bool false, .int .i64 0, .int .u32 0], .int .i64 (orL [x1, x2])]) ∧ IsRd w' g t2 ∧ w.grownBy w' (some g) ∧ tookN 1 s n x1 t1 ∧ tookB n t1 v x2 t2 := by
  obtain ⟨hz, hi⟩ := zero_of_info infoItz
  have HI := Lib.hid hi
  clear hi
  obtain ⟨w0, hw0⟩ : ∃ x, x = (w.alloc (.cells #[.pointer (some ⟨g, 0, none⟩)] 58)).alloc (.cells #[.string ByteArray.empty, .string ByteArray.empty, .bool false, .int .i64 0, .int .u32 0] 35) := ⟨_, rfl⟩
  have Bx := Lib.hid (show Blk w0 w.heap.size 58 #[.pointer (some ⟨g, 0, none⟩)] by rw [hw0]; exact (Blk.new _ _ _).alloc _)
  have R0 := Lib.hid (show Blk w0 (w.heap.size + 1) 35 #[.string ByteArray.empty, .string ByteArray.empty, .bool false, .int .i64 0, .int .u32 0] by
    rw [hw0]
    have := Blk.new (w.alloc (.cells #[.pointer (some ⟨g, 0, none⟩)] 58)) 35 #[.string ByteArray.empty, .string ByteArray.empty, .bool false, .int .i64 0, .int .u32 0]
    simpa using this)
  have F := Lib.hid (show IsRd w0 g s by rw [hw0]; exact Blk.alloc (Blk.alloc h _) _)
  have G := Lib.hid (show w.grownBy w0 (some g) by rw [hw0]; exact grown_trans (World.grownBy_alloc _ _ _) (World.grownBy_alloc _ _ _))
  have HNE := Lib.hid (show w.heap.size + 1 ≠ g by have := Blk.lt h; omega)
  clear h
  go_enter Try.func51, Try.ntmps51
  go_upto_region 1 with fail
  rw [← hw0]
  clear hw0
  have b0 := Bx.out.cell 0
  simp at b0
  go_wp2_with fail
  refine (ltext_raw F.out hs).mono ?_
  rintro e w1 ⟨n, x1, x2, t1, v, t2, rfl, hf, hg, h1, h2⟩
  replace R0 := Lib.hid (Blk.grown R0.out hg (fun e => HNE.out (by injection e)))
  replace F := Lib.hid hf
  replace G := Lib.hid (grown_trans G.out hg)
  have X1 := Lib.hid h1
  have X2 := Lib.hid h2
  clear hf hg h1 h2 b0
  have k0 := R0.out.cell 0
  have k1 := R0.out.cell 1
  have k2 := R0.out.cell 2
  have k3 := R0.out.cell 3
  have k4 := R0.out.cell 4
  have f0 := R0.out.frozen 0
  have f1 := R0.out.frozen 1
  have f2 := R0.out.frozen 2
  have f3 := R0.out.frozen 3
  have f4 := R0.out.frozen 4
  simp at k0 k1 k2 k3 k4
  go_wp2_with fail
  exact bodyPost_ret (read_row rfl _ _ _ (w.heap.size + 1) #[.string ky, .string v, .bool false, .int .i64 0, .int .u32 0] rfl (load_it (five_at R0.out))) rfl ⟨n, x1, x2, t1, v, t2, rfl, five_far F.out (Ne.symm HNE.out), five_grown G.out (Nat.le_succ _), X1.out, X2.out⟩
set_option maxRecDepth 100000 in
set_option maxHeartbeats 3200000 in
theorem lover_raw {w : World} {g : Nat} {s : ByteArray} (h : IsRd w g s) (ky : ByteArray) :
    Calls Try.prog 52 #[.agg #[.pointer (some ⟨g, 0, none⟩)], .string ky] w fun e w' => ∃ (v3 v4 : Nat) (x3 x4 : Int) (t3 t4 : ByteArray), e = .returned (.tuple #[.agg #[.string ky, .string ByteArray.empty, .bool true, .int .i64 v3, .int .u32 v4], .int .i64 (orL [x3, x4])]) ∧ IsRd w' g t4 ∧ w.grownBy w' (some g) ∧ tookN 4 s v3 x3 t3 ∧ tookN 4 t3 v4 x4 t4 := by
  obtain ⟨hz, hi⟩ := zero_of_info infoItz
  have HI := Lib.hid hi
  clear hi
  obtain ⟨w0, hw0⟩ : ∃ x, x = (w.alloc (.cells #[.pointer (some ⟨g, 0, none⟩)] 58)).alloc (.cells #[.string ByteArray.empty, .string ByteArray.empty, .bool false, .int .i64 0, .int .u32 0] 35) := ⟨_, rfl⟩
  have Bx := Lib.hid (show Blk w0 w.heap.size 58 #[.pointer (some ⟨g, 0, none⟩)] by rw [hw0]; exact (Blk.new _ _ _).alloc _)
  have R0 := Lib.hid (show Blk w0 (w.heap.size + 1) 35 #[.string ByteArray.empty, .string ByteArray.empty, .bool false, .int .i64 0, .int .u32 0] by
    rw [hw0]
    have := Blk.new (w.alloc (.cells #[.pointer (some ⟨g, 0, none⟩)] 58)) 35 #[.string ByteArray.empty, .string ByteArray.empty, .bool false, .int .i64 0, .int .u32 0]
    simpa using this)
  have F := Lib.hid (show IsRd w0 g s by rw [hw0]; exact Blk.alloc (Blk.alloc h _) _)
  have G := Lib.hid (show w.grownBy w0 (some g) by rw [hw0]; exact grown_trans (World.grownBy_alloc _ _ _) (World.grownBy_alloc _ _ _))
  have HNE := Lib.hid (show w.heap.size + 1 ≠ g by have := Blk.lt h; omega)
  have HNF := Lib.hid (show w.heap.size ≠ g by have := Blk.lt h; omega)
  clear h
  go_enter Try.func52, Try.ntmps52
  go_upto_region 1 with fail
  rw [← hw0]
  clear hw0
  have b0 := Bx.out.cell 0
  simp at b0
  go_wp2_with fail
  refine (cnum_tot F.out 4 (by decide) (by decide)).mono ?_
  rintro e w1 ⟨v3, x3, t3, rfl, hf, hg, hv, hx⟩
  replace Bx := Lib.hid (Blk.grown Bx.out hg (fun e => HNF.out (by injection e)))
  replace R0 := Lib.hid (Blk.grown R0.out hg (fun e => HNE.out (by injection e)))
  replace F := Lib.hid hf
  replace G := Lib.hid (grown_trans G.out hg)
  have X3 := Lib.hid hx
  have hv3' : v3 < 4294967296 := hv
  clear hf hg hx hv b0
  have b0 := Bx.out.cell 0
  simp at b0
  go_wp2_with fail
  refine (cnum_tot F.out 4 (by decide) (by decide)).mono ?_
  rintro e w2 ⟨v4, x4, t4, rfl, hf, hg, hv, hx⟩
  replace R0 := Lib.hid (Blk.grown R0.out hg (fun e => HNE.out (by injection e)))
  replace F := Lib.hid hf
  replace G := Lib.hid (grown_trans G.out hg)
  have X4 := Lib.hid hx
  have hv4' : v4 < 4294967296 := hv
  clear hf hg hx hv b0
  have hw3 : IntKind.i64.wrap (v3 : Int) = (v3 : Int) := by rw [IntKind.wrap_i64]; omega
  have hw4 : IntKind.u32.wrap (v4 : Int) = (v4 : Int) := by rw [IntKind.wrap_u32]; omega
  have E := Lib.hid (show Reads (w2.alloc (.cells #[.int .i64 x3, .int .i64 x4] 27)) (w2.alloc (.cells #[.int .i64 x3, .int .i64 x4] 27)).heap.size 1 (some ⟨w2.heap.size, 0, none⟩) 2 (ecells [x3, x4]) from (reads_own (n := 2) (Blk.new w2 27 #[.int .i64 x3, .int .i64 x4]) rfl).more (by simp))
  replace R0 := Lib.hid (R0.out.alloc (.cells #[.int .i64 x3, .int .i64 x4] 27))
  replace F := Lib.hid (show IsRd (w2.alloc (.cells #[.int .i64 x3, .int .i64 x4] 27)) g t4 from Blk.alloc F.out _)
  replace G := Lib.hid (grown_trans G.out (World.grownBy_alloc w2 (.cells #[.int .i64 x3, .int .i64 x4] 27) _))
  go_wp2_with fail
  refine (cor_any _ 2 2 [x3, x4] _ E.out (by decide)).mono ?_
  rintro e wq ⟨rfl, rfl⟩
  have k0 := R0.out.cell 0
  have k1 := R0.out.cell 1
  have k2 := R0.out.cell 2
  have k3 := R0.out.cell 3
  have k4 := R0.out.cell 4
  have f0 := R0.out.frozen 0
  have f1 := R0.out.frozen 1
  have f2 := R0.out.frozen 2
  have f3 := R0.out.frozen 3
  have f4 := R0.out.frozen 4
  simp at k0 k1 k2 k3 k4
  clear hw3 hw4 hv3' hv4'
  go_wp2_with fail
  exact bodyPost_ret (read_row rfl _ _ _ (w.heap.size + 1) #[.string ky, .string ByteArray.empty, .bool true, .int .i64 v3, .int .u32 v4] rfl (load_it (five_at R0.out))) rfl ⟨v3, v4, x3, x4, t3, t4, rfl, five_far F.out (Ne.symm HNE.out), five_grown G.out (Nat.le_succ _), X3.out, X4.out⟩
end Go.Proofs.Ytinojpcjbjjlbaa
