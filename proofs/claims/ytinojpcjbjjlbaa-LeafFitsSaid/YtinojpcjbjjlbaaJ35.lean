/-
  Contract of package leaf's reader: an item. (Written by wip/tools/gen_leitem.py.)
-/
import Derived.Test.YtinojpcjbjjlbaaJ34
namespace Go.Proofs.Ytinojpcjbjjlbaa
open Go.RowKit
open Go.Lib hiding intOf
set_option linter.unusedVariables false
set_option linter.unusedSimpArgs false
attribute [local go_sem ↓] Go.wp_at_zero Go.wp_at_succ

theorem blk5 {w : World} {g : Nat} {t : TypeId} {a0 a1 a2 a3 a4 : Value} (h : Blk w g t #[a0, a1, a2, a3, a4]) : w.cell? ⟨g, 0, none⟩ = some a0 ∧ w.cell? ⟨g, 1, none⟩ = some a1 ∧ w.cell? ⟨g, 2, none⟩ = some a2 ∧ w.cell? ⟨g, 3, none⟩ = some a3 ∧ w.cell? ⟨g, 4, none⟩ = some a4 := ⟨h.cell 0, h.cell 1, h.cell 2, h.cell 3, h.cell 4⟩
set_option maxRecDepth 100000 in
set_option maxHeartbeats 12800000 in
theorem lread_item {w : World} {g : Nat} {s : ByteArray} (h : IsRd w g s) (hs : s.size ≤ 100000) :
    Calls Try.prog 30 #[.agg #[.pointer (some ⟨g, 0, none⟩)]] w fun e w' => ∃ (b : It) (x : Int) (s' : ByteArray), e = .returned (.tuple #[.agg #[.string b.ky, .string b.vl, .bool b.ov, .int .i64 b.ln, .int .u32 b.hd], .int .i64 x]) ∧ IsRd w' g s' ∧ w.grownBy w' (some g) ∧ itemOk s b x s' := by
  have hmf : ∀ (fn : Fn) (first cap : Array Value) (w : World), (Instr.makeFunc fn first cap).run Try.prog w = .ok (.func fn first cap) w := fun _ _ _ _ => rfl
  have eg1 : ∀ args w, (callFunc 51 args).run Try.prog w = .ok (.enter 51 args) w := fun _ _ => by first | rfl | kernel_rfl
  have eg2 : ∀ args w, (callFunc 52 args).run Try.prog w = .ok (.enter 52 args) w := fun _ _ => by first | rfl | kernel_rfl
  obtain ⟨hz, hi⟩ := zero_of_info infoItz
  have HI := Lib.hid hi
  clear hi
  obtain ⟨w0, hw0⟩ : ∃ x, x = (w.alloc (.cells #[.pointer (some ⟨g, 0, none⟩)] 58)).alloc (.cells #[.string ByteArray.empty, .string ByteArray.empty, .bool false, .int .i64 0, .int .u32 0] 35) := ⟨_, rfl⟩
  have Bx := Lib.hid (show Blk w0 w.heap.size 58 #[.pointer (some ⟨g, 0, none⟩)] by rw [hw0]; exact (Blk.new _ _ _).alloc _)
  have R0 := Lib.hid (show Blk w0 (w.heap.size + 1) 35 #[.string ByteArray.empty, .string ByteArray.empty, .bool false, .int .i64 0, .int .u32 0] by
    rw [hw0]
    have := Blk.new (w.alloc (.cells #[.pointer (some ⟨g, 0, none⟩)] 58)) 35 #[.string ByteArray.empty, .string ByteArray.empty, .bool false, .int .i64 0, .int .u32 0]
    simpa using this)
  have F := Lib.hid (show IsRd w0 g s by rw [hw0]; exact Blk.alloc (Blk.alloc h _) _)
  have G := Lib.hid (show w.grownBy w0 (some g) by rw [hw0]; exact grown_trans (World.grownBy_alloc _ _ _) (World.grownBy_alloc _ _ _))
  have HNE := Lib.hid (show w.heap.size + 1 ≠ g by have := Blk.lt h; omega)
  have HNF := Lib.hid (show w.heap.size ≠ g by have := Blk.lt h; omega)
  have Hs := Lib.hid hs
  clear h hs
  go_enter Try.func30, Try.ntmps30
  go_upto_region 1 with fail
  rw [← hw0]
  clear hw0
  have b0 := Bx.out.cell 0
  simp at b0
  go_wp2_with fail
  refine (cnum_tot F.out 1 (by decide) (by decide)).mono ?_
  rintro e w1 ⟨vo, x0, t0, rfl, hf, hg, hv, hx⟩
  replace Bx := Lib.hid (Blk.grown Bx.out hg (fun e => HNF.out (by injection e)))
  replace R0 := Lib.hid (Blk.grown R0.out hg (fun e => HNE.out (by injection e)))
  replace F := Lib.hid hf
  replace G := Lib.hid (grown_trans G.out hg)
  have X0 := Lib.hid hx
  have ht0 : t0.size ≤ 100000 := Nat.le_trans (tookN_le hx) Hs.out
  clear hf hg hx hv b0
  have b0 := Bx.out.cell 0
  simp at b0
  go_wp2_with fail
  refine (ltext_raw F.out ht0).mono ?_
  rintro e w2 ⟨vn, x1, x2, t1, ky, t2, rfl, hf, hg, h1, h2⟩
  replace Bx := Lib.hid (Blk.grown Bx.out hg (fun e => HNF.out (by injection e)))
  replace R0 := Lib.hid (Blk.grown R0.out hg (fun e => HNE.out (by injection e)))
  replace F := Lib.hid hf
  replace G := Lib.hid (grown_trans G.out hg)
  have X1 := Lib.hid h1
  have X2 := Lib.hid h2
  have HT2 := Lib.hid (show t2.size ≤ 100000 from Nat.le_trans (tookB_le h2) (Nat.le_trans (tookN_le h1) ht0))
  clear hf hg h1 h2 b0 ht0
  have b0 := Bx.out.cell 0
  simp at b0
  obtain ⟨y1, hy1⟩ : ∃ y, y = orL [x1, x2] := ⟨_, rfl⟩
  rw [← hy1]
  have HY1 := Lib.hid hy1
  clear hy1
  by_cases hvo : vo = 1
  · subst hvo
    go_wp2_with fail
    refine (lover_raw F.out ky).mono ?_
    rintro e w3 ⟨v3, v4, x3, x4, t3, t4, rfl, hf, hg, h3, h4⟩
    have HOK := Lib.hid (item_ov X0.out X1.out X2.out h3 h4)
    replace R0 := Lib.hid (Blk.grown R0.out hg (fun e => HNE.out (by injection e)))
    replace F := Lib.hid hf
    replace G := Lib.hid (grown_trans G.out hg)
    clear hf hg h3 h4 b0
    obtain ⟨y2, hy2⟩ : ∃ y, y = orL [x3, x4] := ⟨_, rfl⟩
    rw [← HY1.out, ← hy2] at HOK
    rw [← hy2]
    clear hy2
    go_upto_region 7 with fail
    obtain ⟨w5, hw5⟩ : ∃ x, x = w3.alloc (.cells #[.string ky, .string ByteArray.empty, .bool true, .int .i64 v3, .int .u32 v4] 35) := ⟨_, rfl⟩
    have Bb := Lib.hid (show Blk w5 w3.heap.size 35 #[.string ky, .string ByteArray.empty, .bool true, .int .i64 v3, .int .u32 v4] by rw [hw5]; exact Blk.new _ _ _)
    have HLT := Lib.hid (show w.heap.size + 1 < w3.heap.size from R0.out.lt)
    replace R0 := Lib.hid (show Blk w5 (w.heap.size + 1) 35 #[.string ByteArray.empty, .string ByteArray.empty, .bool false, .int .i64 0, .int .u32 0] by rw [hw5]; exact R0.out.alloc _)
    replace F := Lib.hid (show IsRd w5 g t4 by rw [hw5]; exact Blk.alloc F.out _)
    replace G := Lib.hid (show w.grownBy w5 (some g) by rw [hw5]; exact grown_trans G.out (World.grownBy_alloc _ _ _))
    rw [← hw5]
    clear hw5
    generalize w3.heap.size = gB at *
    refine wp_region_held_drew (S := (fun w' => w'.cell? ⟨gB, 0, none⟩ = some (.string ky) ∧ w'.cell? ⟨gB, 1, none⟩ = some (.string ByteArray.empty) ∧ w'.cell? ⟨gB, 2, none⟩ = some (.bool true) ∧ w'.cell? ⟨gB, 3, none⟩ = some (.int .i64 v3) ∧ w'.cell? ⟨gB, 4, none⟩ = some (.int .u32 v4))) (by kernel_rfl) (blk5 Bb.out) (fun hHeld => ?_)
    refine wpAnyH_takeL (i := 0) (v := ?_) rfl (by kernel_rfl) (by kernel_rfl) (by kernel_rfl) (fun _ _ _ h => h) (Or.inl ⟨by rfl, ?_⟩) (by first | exact hHeld | trivial | assumption) ?_
    rotate_left
    · intro wz hSz; (try dsimp only at hSz); go_simp; (try with_reducible rfl)
    try simp only [Act.put, List.setIfInBounds_toArray, List.set_cons_zero, List.set_cons_succ]
    refine wpAnyH_takeL (i := 1) (v := ?_) rfl (by kernel_rfl) (by kernel_rfl) (by kernel_rfl) (fun _ _ _ h => h) (Or.inl ⟨by rfl, ?_⟩) (by first | exact hHeld | trivial | assumption) ?_
    rotate_left
    · intro wz hSz; (try dsimp only at hSz); go_simp; (try with_reducible rfl)
    try simp only [Act.put, List.setIfInBounds_toArray, List.set_cons_zero, List.set_cons_succ]
    refine wpAnyH_takeL (i := 2) (v := ?_) rfl (by kernel_rfl) (by kernel_rfl) (by kernel_rfl) (fun _ _ _ h => h) (Or.inl ⟨by rfl, ?_⟩) (by first | exact hHeld | trivial | assumption) ?_
    rotate_left
    · intro wz hSz; (try dsimp only at hSz); go_simp; (try with_reducible rfl)
    try simp only [Act.put, List.setIfInBounds_toArray, List.set_cons_zero, List.set_cons_succ]
    refine wpAnyH_takeL (i := 3) (v := ?_) rfl (by kernel_rfl) (by kernel_rfl) (by kernel_rfl) (fun _ _ _ h => h) (Or.inl ⟨by rfl, ?_⟩) (by first | exact hHeld | trivial | assumption) ?_
    rotate_left
    · intro wz hSz; (try dsimp only at hSz); go_simp; (try with_reducible rfl)
    try simp only [Act.put, List.setIfInBounds_toArray, List.set_cons_zero, List.set_cons_succ]
    refine wpAnyH_ready (rs := [4]) (by kernel_rfl) (by simp) ?_
    refine AllReadyH.consL rfl (fun K hK => ?_) AllReadyH.nil
    go_simp
    refine hK.out _ _ (blk5 (Bb.out.alloc _)) (fun hHeld => ?_)
    clear hK K
    try simp only [Act.put, List.setIfInBounds_toArray, List.set_cons_zero, List.set_cons_succ]
    have E := Lib.hid (show Reads (w5.alloc (.cells #[.int .i64 x0, .int .i64 y1, .int .i64 y2] 27)).drew (w5.heap.size + 1) 1 (some ⟨w5.heap.size, 0, none⟩) 3 (ecells [x0, y1, y2]) from (reads_own (n := 3) (Blk.new w5 27 #[.int .i64 x0, .int .i64 y1, .int .i64 y2]) rfl).drew)
    replace E := Lib.hid (show Reads (w5.alloc (.cells #[.int .i64 x0, .int .i64 y1, .int .i64 y2] 27)).drew (w5.alloc (.cells #[.int .i64 x0, .int .i64 y1, .int .i64 y2] 27)).drew.heap.size 1 (some ⟨w5.heap.size, 0, none⟩) 3 (ecells [x0, y1, y2]) from E.out.more (by simp))
    replace Bb := Lib.hid ((Bb.out.alloc (.cells #[.int .i64 x0, .int .i64 y1, .int .i64 y2] 27)).drew)
    replace R0 := Lib.hid ((R0.out.alloc (.cells #[.int .i64 x0, .int .i64 y1, .int .i64 y2] 27)).drew)
    replace F := Lib.hid (show IsRd (w5.alloc (.cells #[.int .i64 x0, .int .i64 y1, .int .i64 y2] 27)).drew g t4 from Blk.alloc F.out _)
    replace G := Lib.hid (grown_trans (grown_trans G.out (World.grownBy_alloc w5 (.cells #[.int .i64 x0, .int .i64 y1, .int .i64 y2] 27) _)) (grown_drew _ _))
    generalize (w5.alloc (.cells #[.int .i64 x0, .int .i64 y1, .int .i64 y2] 27)).drew = w6 at *
    refine wpAnyH_ready (rs := [5]) (by kernel_rfl) (by simp) ?_
    refine AllReadyH.consL rfl (fun K hK => ?_) AllReadyH.nil
    go_simp
    refine (cor_any _ 3 3 [x0, y1, y2] _ E.out (by decide)).mono ?_
    rintro e wq ⟨rfl, rfl⟩
    refine hK.out _ _ (blk5 Bb.out) (fun hHeld => ?_)
    clear hK K
    try simp only [Act.put, List.setIfInBounds_toArray, List.set_cons_zero, List.set_cons_succ]
    refine wpAnyH_ready (rs := [6]) (by kernel_rfl) (by simp) ?_
    refine AllReadyH.consL rfl (fun K hK => ?_) AllReadyH.nil
    have k0 := R0.out.cell 0
    have k1 := R0.out.cell 1
    have k2 := R0.out.cell 2
    have k3 := R0.out.cell 3
    have k4 := R0.out.cell 4
    have f0 := R0.out.frozen 0
    have f1 := R0.out.frozen 1
    have f2 := R0.out.frozen 2
    have f3 := R0.out.frozen 3
    have f4 := R0.out.frozen 4
    simp at k0 k1 k2 k3 k4
    go_simp
    refine hK.out _ _ (blk5 (((((Bb.out.far (p := ⟨w.heap.size + 1, 0, none⟩) (Nat.ne_of_gt HLT.out) _).far (p := ⟨w.heap.size + 1, 1, none⟩) (Nat.ne_of_gt HLT.out) _).far (p := ⟨w.heap.size + 1, 2, none⟩) (Nat.ne_of_gt HLT.out) _).far (p := ⟨w.heap.size + 1, 3, none⟩) (Nat.ne_of_gt HLT.out) _).far (p := ⟨w.heap.size + 1, 4, none⟩) (Nat.ne_of_gt HLT.out) _)) (fun hHeld => ?_)
    clear hK K
    try simp only [Act.put, List.setIfInBounds_toArray, List.set_cons_zero, List.set_cons_succ]
    refine wpAnyH_takeL (i := 7) (v := ?_) rfl (by kernel_rfl) (by kernel_rfl) (by kernel_rfl) (fun _ _ _ h => h) (Or.inl ⟨by rfl, ?_⟩) (by first | exact hHeld | trivial | assumption) ?_
    rotate_left
    · intro wz hSz; (try dsimp only at hSz); go_simp; (try with_reducible rfl)
    try simp only [Act.put, List.setIfInBounds_toArray, List.set_cons_zero, List.set_cons_succ]
    refine wpAnyH_done (by kernel_rfl) ?_ _
    go_wp2_with fail
    exact bodyPost_ret (read_row rfl _ _ _ (w.heap.size + 1) #[.string ky, .string ByteArray.empty, .bool true, .int .i64 v3, .int .u32 v4] rfl (load_it (five_at R0.out))) rfl ⟨⟨ky, ⟨#[]⟩, true, (v3 : Nat), v4⟩, orL [x0, y1, y2], t4, rfl, five_far F.out (Ne.symm HNE.out), five_grown G.out (Nat.le_succ _), HOK.out⟩
  · have hvo1 : ((vo : Int) == 1) = false := by simp; omega
    have hvo2 : (vo == 1) = false := by simp; omega
    go_wp2_with fail
    refine (lplace_raw F.out HT2.out ky).mono ?_
    rintro e w3 ⟨v3, x3, x4, t3, vl, t4, rfl, hf, hg, h3, h4⟩
    have HOK := Lib.hid (item_in hvo X0.out X1.out X2.out h3 h4)
    clear hvo1 hvo2
    replace R0 := Lib.hid (Blk.grown R0.out hg (fun e => HNE.out (by injection e)))
    replace F := Lib.hid hf
    replace G := Lib.hid (grown_trans G.out hg)
    clear hf hg h3 h4 b0
    obtain ⟨y2, hy2⟩ : ∃ y, y = orL [x3, x4] := ⟨_, rfl⟩
    rw [← HY1.out, ← hy2] at HOK
    rw [← hy2]
    clear hy2
    go_upto_region 7 with fail
    obtain ⟨w5, hw5⟩ : ∃ x, x = w3.alloc (.cells #[.string ky, .string vl, .bool false, .int .i64 0, .int .u32 0] 35) := ⟨_, rfl⟩
    have Bb := Lib.hid (show Blk w5 w3.heap.size 35 #[.string ky, .string vl, .bool false, .int .i64 0, .int .u32 0] by rw [hw5]; exact Blk.new _ _ _)
    have HLT := Lib.hid (show w.heap.size + 1 < w3.heap.size from R0.out.lt)
    replace R0 := Lib.hid (show Blk w5 (w.heap.size + 1) 35 #[.string ByteArray.empty, .string ByteArray.empty, .bool false, .int .i64 0, .int .u32 0] by rw [hw5]; exact R0.out.alloc _)
    replace F := Lib.hid (show IsRd w5 g t4 by rw [hw5]; exact Blk.alloc F.out _)
    replace G := Lib.hid (show w.grownBy w5 (some g) by rw [hw5]; exact grown_trans G.out (World.grownBy_alloc _ _ _))
    rw [← hw5]
    clear hw5
    generalize w3.heap.size = gB at *
    refine wp_region_held_drew (S := (fun w' => w'.cell? ⟨gB, 0, none⟩ = some (.string ky) ∧ w'.cell? ⟨gB, 1, none⟩ = some (.string vl) ∧ w'.cell? ⟨gB, 2, none⟩ = some (.bool false) ∧ w'.cell? ⟨gB, 3, none⟩ = some (.int .i64 0) ∧ w'.cell? ⟨gB, 4, none⟩ = some (.int .u32 0))) (by kernel_rfl) (blk5 Bb.out) (fun hHeld => ?_)
    refine wpAnyH_takeL (i := 0) (v := ?_) rfl (by kernel_rfl) (by kernel_rfl) (by kernel_rfl) (fun _ _ _ h => h) (Or.inl ⟨by rfl, ?_⟩) (by first | exact hHeld | trivial | assumption) ?_
    rotate_left
    · intro wz hSz; (try dsimp only at hSz); go_simp; (try with_reducible rfl)
    try simp only [Act.put, List.setIfInBounds_toArray, List.set_cons_zero, List.set_cons_succ]
    refine wpAnyH_takeL (i := 1) (v := ?_) rfl (by kernel_rfl) (by kernel_rfl) (by kernel_rfl) (fun _ _ _ h => h) (Or.inl ⟨by rfl, ?_⟩) (by first | exact hHeld | trivial | assumption) ?_
    rotate_left
    · intro wz hSz; (try dsimp only at hSz); go_simp; (try with_reducible rfl)
    try simp only [Act.put, List.setIfInBounds_toArray, List.set_cons_zero, List.set_cons_succ]
    refine wpAnyH_takeL (i := 2) (v := ?_) rfl (by kernel_rfl) (by kernel_rfl) (by kernel_rfl) (fun _ _ _ h => h) (Or.inl ⟨by rfl, ?_⟩) (by first | exact hHeld | trivial | assumption) ?_
    rotate_left
    · intro wz hSz; (try dsimp only at hSz); go_simp; (try with_reducible rfl)
    try simp only [Act.put, List.setIfInBounds_toArray, List.set_cons_zero, List.set_cons_succ]
    refine wpAnyH_takeL (i := 3) (v := ?_) rfl (by kernel_rfl) (by kernel_rfl) (by kernel_rfl) (fun _ _ _ h => h) (Or.inl ⟨by rfl, ?_⟩) (by first | exact hHeld | trivial | assumption) ?_
    rotate_left
    · intro wz hSz; (try dsimp only at hSz); go_simp; (try with_reducible rfl)
    try simp only [Act.put, List.setIfInBounds_toArray, List.set_cons_zero, List.set_cons_succ]
    refine wpAnyH_ready (rs := [4]) (by kernel_rfl) (by simp) ?_
    refine AllReadyH.consL rfl (fun K hK => ?_) AllReadyH.nil
    go_simp
    refine hK.out _ _ (blk5 (Bb.out.alloc _)) (fun hHeld => ?_)
    clear hK K
    try simp only [Act.put, List.setIfInBounds_toArray, List.set_cons_zero, List.set_cons_succ]
    have E := Lib.hid (show Reads (w5.alloc (.cells #[.int .i64 x0, .int .i64 y1, .int .i64 y2] 27)).drew (w5.heap.size + 1) 1 (some ⟨w5.heap.size, 0, none⟩) 3 (ecells [x0, y1, y2]) from (reads_own (n := 3) (Blk.new w5 27 #[.int .i64 x0, .int .i64 y1, .int .i64 y2]) rfl).drew)
    replace E := Lib.hid (show Reads (w5.alloc (.cells #[.int .i64 x0, .int .i64 y1, .int .i64 y2] 27)).drew (w5.alloc (.cells #[.int .i64 x0, .int .i64 y1, .int .i64 y2] 27)).drew.heap.size 1 (some ⟨w5.heap.size, 0, none⟩) 3 (ecells [x0, y1, y2]) from E.out.more (by simp))
    replace Bb := Lib.hid ((Bb.out.alloc (.cells #[.int .i64 x0, .int .i64 y1, .int .i64 y2] 27)).drew)
    replace R0 := Lib.hid ((R0.out.alloc (.cells #[.int .i64 x0, .int .i64 y1, .int .i64 y2] 27)).drew)
    replace F := Lib.hid (show IsRd (w5.alloc (.cells #[.int .i64 x0, .int .i64 y1, .int .i64 y2] 27)).drew g t4 from Blk.alloc F.out _)
    replace G := Lib.hid (grown_trans (grown_trans G.out (World.grownBy_alloc w5 (.cells #[.int .i64 x0, .int .i64 y1, .int .i64 y2] 27) _)) (grown_drew _ _))
    generalize (w5.alloc (.cells #[.int .i64 x0, .int .i64 y1, .int .i64 y2] 27)).drew = w6 at *
    refine wpAnyH_ready (rs := [5]) (by kernel_rfl) (by simp) ?_
    refine AllReadyH.consL rfl (fun K hK => ?_) AllReadyH.nil
    go_simp
    refine (cor_any _ 3 3 [x0, y1, y2] _ E.out (by decide)).mono ?_
    rintro e wq ⟨rfl, rfl⟩
    refine hK.out _ _ (blk5 Bb.out) (fun hHeld => ?_)
    clear hK K
    try simp only [Act.put, List.setIfInBounds_toArray, List.set_cons_zero, List.set_cons_succ]
    refine wpAnyH_ready (rs := [6]) (by kernel_rfl) (by simp) ?_
    refine AllReadyH.consL rfl (fun K hK => ?_) AllReadyH.nil
    have k0 := R0.out.cell 0
    have k1 := R0.out.cell 1
    have k2 := R0.out.cell 2
    have k3 := R0.out.cell 3
    have k4 := R0.out.cell 4
    have f0 := R0.out.frozen 0
    have f1 := R0.out.frozen 1
    have f2 := R0.out.frozen 2
    have f3 := R0.out.frozen 3
    have f4 := R0.out.frozen 4
    simp at k0 k1 k2 k3 k4
    go_simp
    refine hK.out _ _ (blk5 (((((Bb.out.far (p := ⟨w.heap.size + 1, 0, none⟩) (Nat.ne_of_gt HLT.out) _).far (p := ⟨w.heap.size + 1, 1, none⟩) (Nat.ne_of_gt HLT.out) _).far (p := ⟨w.heap.size + 1, 2, none⟩) (Nat.ne_of_gt HLT.out) _).far (p := ⟨w.heap.size + 1, 3, none⟩) (Nat.ne_of_gt HLT.out) _).far (p := ⟨w.heap.size + 1, 4, none⟩) (Nat.ne_of_gt HLT.out) _)) (fun hHeld => ?_)
    clear hK K
    try simp only [Act.put, List.setIfInBounds_toArray, List.set_cons_zero, List.set_cons_succ]
    refine wpAnyH_takeL (i := 7) (v := ?_) rfl (by kernel_rfl) (by kernel_rfl) (by kernel_rfl) (fun _ _ _ h => h) (Or.inl ⟨by rfl, ?_⟩) (by first | exact hHeld | trivial | assumption) ?_
    rotate_left
    · intro wz hSz; (try dsimp only at hSz); go_simp; (try with_reducible rfl)
    try simp only [Act.put, List.setIfInBounds_toArray, List.set_cons_zero, List.set_cons_succ]
    refine wpAnyH_done (by kernel_rfl) ?_ _
    go_wp2_with fail
    exact bodyPost_ret (read_row rfl _ _ _ (w.heap.size + 1) #[.string ky, .string vl, .bool false, .int .i64 0, .int .u32 0] rfl (load_it (five_at R0.out))) rfl ⟨⟨ky, vl, false, 0, 0⟩, orL [x0, y1, y2], t4, rfl, five_far F.out (Ne.symm HNE.out), five_grown G.out (Nat.le_succ _), HOK.out⟩
end Go.Proofs.Ytinojpcjbjjlbaa
