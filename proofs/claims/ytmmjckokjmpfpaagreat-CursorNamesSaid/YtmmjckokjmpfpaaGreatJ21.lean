/-
  Texts that the main proof rests on, put together: LeItem, LeTimes, LeSmall. No statement is proved here.
-/
import Derived.Test.YtmmjckokjmpfpaaGreatJ17
import Derived.Test.YtmmjckokjmpfpaaGreatJ10
import Derived.Test.YtmmjckokjmpfpaaGreatJ14
import Derived.Test.YtmmjckokjmpfpaaGreatJ9
import Derived.Deep.CutRange
import Derived.Deep.DrawnRows
import Derived.WalkMore
set_option linter.unusedVariables false
set_option linter.unusedSimpArgs false
namespace Go.Proofs.YtmmjckokjmpfpaaGreat
open Go.RowKit
open Go.Lib hiding intOf
attribute [local go_sem ↓] Go.wp_at_zero Go.wp_at_succ

theorem blk5 {w : World} {g : Nat} {t : TypeId} {a0 a1 a2 a3 a4 : Value} (h : Blk w g t #[a0, a1, a2, a3, a4]) : w.cell? ⟨g, 0, none⟩ = some a0 ∧ w.cell? ⟨g, 1, none⟩ = some a1 ∧ w.cell? ⟨g, 2, none⟩ = some a2 ∧ w.cell? ⟨g, 3, none⟩ = some a3 ∧ w.cell? ⟨g, 4, none⟩ = some a4 := ⟨h.cell 0, h.cell 1, h.cell 2, h.cell 3, h.cell 4⟩
set_option maxRecDepth 100000 in
set_option maxHeartbeats 12800000 in
theorem lread_item {w : World} {g : Nat} {s : ByteArray} (h : IsRd w g s) (hs : s.size ≤ 100000) :
  Calls Tryz.prog 124 #[.agg #[.pointer (some ⟨g, 0, none⟩)]] w fun e w' => ∃ (b : It) (x : Int) (s' : ByteArray), e = .returned (.tuple #[.agg #[.string b.ky, .string b.vl, .bool b.ov, .int .i64 b.ln, .int .u32 b.hd], .int .i64 x]) ∧ IsRd w' g s' ∧ w.grownBy w' (some g) ∧ itemOk s b x s' := by
 have hmf : ∀ (fn : Fn) (first cap : Array Value) (w : World), (Instr.makeFunc fn first cap).run Tryz.prog w = .ok (.func fn first cap) w := fun _ _ _ _ => rfl
 have eg1 : ∀ args w, (callFunc 141 args).run Tryz.prog w = .ok (.enter 141 args) w := fun _ _ => by first | rfl | kernel_rfl
 have eg2 : ∀ args w, (callFunc 142 args).run Tryz.prog w = .ok (.enter 142 args) w := fun _ _ => by first | rfl | kernel_rfl
 obtain ⟨hz, hi⟩ := zero_of_info infoItz
 have HI := Lib.hid hi
 clear hi
 obtain ⟨w0, hw0⟩ : ∃ x, x = (w.alloc (.cells #[.pointer (some ⟨g, 0, none⟩)] 197)).alloc (.cells #[.string ByteArray.empty, .string ByteArray.empty, .bool false, .int .i64 0, .int .u32 0] 76) := ⟨_, rfl⟩
 have Bx := Lib.hid (show Blk w0 w.heap.size 197 #[.pointer (some ⟨g, 0, none⟩)] by rw [hw0]; exact (Blk.new _ _ _).alloc _)
 have R0 := Lib.hid (show Blk w0 (w.heap.size + 1) 76 #[.string ByteArray.empty, .string ByteArray.empty, .bool false, .int .i64 0, .int .u32 0] by
  rw [hw0]
  have := Blk.new (w.alloc (.cells #[.pointer (some ⟨g, 0, none⟩)] 197)) 76 #[.string ByteArray.empty, .string ByteArray.empty, .bool false, .int .i64 0, .int .u32 0]
  simpa using this)
 have F := Lib.hid (show IsRd w0 g s by rw [hw0]; exact Blk.alloc (Blk.alloc h _) _)
 have G := Lib.hid (show w.grownBy w0 (some g) by rw [hw0]; exact grown_trans (World.grownBy_alloc _ _ _) (World.grownBy_alloc _ _ _))
 have HNE := Lib.hid (show w.heap.size + 1 ≠ g by have := Blk.lt h; omega)
 have HNF := Lib.hid (show w.heap.size ≠ g by have := Blk.lt h; omega)
 have Hs := Lib.hid hs
 clear h hs
 go_enter Tryz.func124, Tryz.ntmps124
 go_upto_region 1 with fail
 rw [← hw0]
 clear hw0
 have b0 := Bx.out.cell 0
 simp at b0
 go_wp2_with fail
 refine (cnum_tot F.out 1 (by decide) (by decide)).mono ?_
 rintro e w1 ⟨vo, x0, t0, rfl, hf, hg, hv, hx⟩
 replace Bx := Lib.hid (Blk.grown Bx.out hg (fun e => HNF.out (by injection e)))
 replace R0 := Lib.hid (Blk.grown R0.out hg (fun e => HNE.out (by injection e)))
 replace F := Lib.hid hf
 replace G := Lib.hid (grown_trans G.out hg)
 have X0 := Lib.hid hx
 have ht0 : t0.size ≤ 100000 := Nat.le_trans (tookN_le hx) Hs.out
 clear hf hg hx hv b0
 have b0 := Bx.out.cell 0
 simp at b0
 go_wp2_with fail
 refine (ltext_raw F.out ht0).mono ?_
 rintro e w2 ⟨vn, x1, x2, t1, ky, t2, rfl, hf, hg, h1, h2⟩
 replace Bx := Lib.hid (Blk.grown Bx.out hg (fun e => HNF.out (by injection e)))
 replace R0 := Lib.hid (Blk.grown R0.out hg (fun e => HNE.out (by injection e)))
 replace F := Lib.hid hf
 replace G := Lib.hid (grown_trans G.out hg)
 have X1 := Lib.hid h1
 have X2 := Lib.hid h2
 have HT2 := Lib.hid (show t2.size ≤ 100000 from Nat.le_trans (tookB_le h2) (Nat.le_trans (tookN_le h1) ht0))
 clear hf hg h1 h2 b0 ht0
 have b0 := Bx.out.cell 0
 simp at b0
 obtain ⟨y1, hy1⟩ : ∃ y, y = orL [x1, x2] := ⟨_, rfl⟩
 rw [← hy1]
 have HY1 := Lib.hid hy1
 clear hy1
 by_cases hvo : vo = 1
 ·subst hvo
  go_wp2_with fail
  refine (lover_raw F.out ky).mono ?_
  rintro e w3 ⟨v3, v4, x3, x4, t3, t4, rfl, hf, hg, h3, h4⟩
  have HOK := Lib.hid (item_ov X0.out X1.out X2.out h3 h4)
  replace R0 := Lib.hid (Blk.grown R0.out hg (fun e => HNE.out (by injection e)))
  replace F := Lib.hid hf
  replace G := Lib.hid (grown_trans G.out hg)
  clear hf hg h3 h4 b0
  obtain ⟨y2, hy2⟩ : ∃ y, y = orL [x3, x4] := ⟨_, rfl⟩
  rw [← HY1.out, ← hy2] at HOK
  rw [← hy2]
  clear hy2
  go_upto_region 7 with fail
  obtain ⟨w5, hw5⟩ : ∃ x, x = w3.alloc (.cells #[.string ky, .string ByteArray.empty, .bool true, .int .i64 v3, .int .u32 v4] 76) := ⟨_, rfl⟩
  have Bb := Lib.hid (show Blk w5 w3.heap.size 76 #[.string ky, .string ByteArray.empty, .bool true, .int .i64 v3, .int .u32 v4] by rw [hw5]; exact Blk.new _ _ _)
  have HLT := Lib.hid (show w.heap.size + 1 < w3.heap.size from R0.out.lt)
  replace R0 := Lib.hid (show Blk w5 (w.heap.size + 1) 76 #[.string ByteArray.empty, .string ByteArray.empty, .bool false, .int .i64 0, .int .u32 0] by rw [hw5]; exact R0.out.alloc _)
  replace F := Lib.hid (show IsRd w5 g t4 by rw [hw5]; exact Blk.alloc F.out _)
  replace G := Lib.hid (show w.grownBy w5 (some g) by rw [hw5]; exact grown_trans G.out (World.grownBy_alloc _ _ _))
  rw [← hw5]
  clear hw5
  generalize w3.heap.size = gB at *
  refine wp_region_held_drew (S := (fun w' => w'.cell? ⟨gB, 0, none⟩ = some (.string ky) ∧ w'.cell? ⟨gB, 1, none⟩ = some (.string ByteArray.empty) ∧ w'.cell? ⟨gB, 2, none⟩ = some (.bool true) ∧ w'.cell? ⟨gB, 3, none⟩ = some (.int .i64 v3) ∧ w'.cell? ⟨gB, 4, none⟩ = some (.int .u32 v4))) (by kernel_rfl) (blk5 Bb.out) (fun hHeld => ?_)
  refine tkA (i := 0) ?_
  try simp only [tkP]
  refine tkA (i := 1) ?_
  try simp only [tkP]
  refine tkA (i := 2) ?_
  try simp only [tkP]
  refine tkA (i := 3) ?_
  try simp only [tkP]
  refine wpAnyH_ready (rs := [4]) (by kernel_rfl) (by simp) ?_
  refine tkC (fun K hK => ?_)
  go_simp
  refine hK.out _ _ (blk5 (Bb.out.alloc _)) (fun hHeld => ?_)
  clear hK K
  try simp only [tkP]
  have E := Lib.hid (show Reads (w5.alloc (.cells #[.int .i64 x0, .int .i64 y1, .int .i64 y2] 28)).drew (w5.heap.size + 1) 1 (some ⟨w5.heap.size, 0, none⟩) 3 (ecells [x0, y1, y2]) from (reads_own (n := 3) (Blk.new w5 28 #[.int .i64 x0, .int .i64 y1, .int .i64 y2]) rfl).drew)
  replace E := Lib.hid (show Reads (w5.alloc (.cells #[.int .i64 x0, .int .i64 y1, .int .i64 y2] 28)).drew (w5.alloc (.cells #[.int .i64 x0, .int .i64 y1, .int .i64 y2] 28)).drew.heap.size 1 (some ⟨w5.heap.size, 0, none⟩) 3 (ecells [x0, y1, y2]) from E.out.more (by simp))
  replace Bb := Lib.hid ((Bb.out.alloc (.cells #[.int .i64 x0, .int .i64 y1, .int .i64 y2] 28)).drew)
  replace R0 := Lib.hid ((R0.out.alloc (.cells #[.int .i64 x0, .int .i64 y1, .int .i64 y2] 28)).drew)
  replace F := Lib.hid (show IsRd (w5.alloc (.cells #[.int .i64 x0, .int .i64 y1, .int .i64 y2] 28)).drew g t4 from Blk.alloc F.out _)
  replace G := Lib.hid (grown_trans (grown_trans G.out (World.grownBy_alloc w5 (.cells #[.int .i64 x0, .int .i64 y1, .int .i64 y2] 28) _)) (grown_drew _ _))
  generalize (w5.alloc (.cells #[.int .i64 x0, .int .i64 y1, .int .i64 y2] 28)).drew = w6 at *
  refine wpAnyH_ready (rs := [5]) (by kernel_rfl) (by simp) ?_
  refine tkC (fun K hK => ?_)
  go_simp
  refine (cor_any _ 3 3 [x0, y1, y2] _ E.out (by decide)).mono ?_
  rintro e wq ⟨rfl, rfl⟩
  refine hK.out _ _ (blk5 Bb.out) (fun hHeld => ?_)
  clear hK K
  try simp only [tkP]
  refine wpAnyH_ready (rs := [6]) (by kernel_rfl) (by simp) ?_
  refine tkC (fun K hK => ?_)
  have k0 := R0.out.cell 0
  have k1 := R0.out.cell 1
  have k2 := R0.out.cell 2
  have k3 := R0.out.cell 3
  have k4 := R0.out.cell 4
  have f0 := R0.out.frozen 0
  have f1 := R0.out.frozen 1
  have f2 := R0.out.frozen 2
  have f3 := R0.out.frozen 3
  have f4 := R0.out.frozen 4
  simp at k0 k1 k2 k3 k4
  go_simp
  refine hK.out _ _ (blk5 (((((Bb.out.far (p := ⟨w.heap.size + 1, 0, none⟩) (Nat.ne_of_gt HLT.out) _).far (p := ⟨w.heap.size + 1, 1, none⟩) (Nat.ne_of_gt HLT.out) _).far (p := ⟨w.heap.size + 1, 2, none⟩) (Nat.ne_of_gt HLT.out) _).far (p := ⟨w.heap.size + 1, 3, none⟩) (Nat.ne_of_gt HLT.out) _).far (p := ⟨w.heap.size + 1, 4, none⟩) (Nat.ne_of_gt HLT.out) _)) (fun hHeld => ?_)
  clear hK K
  try simp only [tkP]
  refine tkA (i := 7) ?_
  try simp only [tkP]
  refine wpAnyH_done (by kernel_rfl) ?_ _
  go_wp2_with fail
  exact bodyPost_ret (read_row rfl _ _ _ (w.heap.size + 1) #[.string ky, .string ByteArray.empty, .bool true, .int .i64 v3, .int .u32 v4] rfl (load_it (five_at R0.out))) rfl ⟨⟨ky, ⟨#[]⟩, true, (v3 : Nat), v4⟩, orL [x0, y1, y2], t4, rfl, five_far F.out (Ne.symm HNE.out), five_grown G.out (Nat.le_succ _), HOK.out⟩
 ·have hvo1 : ((vo : Int) == 1) = false := by simp; omega
  have hvo2 : (vo == 1) = false := by simp; omega
  go_wp2_with fail
  refine (lplace_raw F.out HT2.out ky).mono ?_
  rintro e w3 ⟨v3, x3, x4, t3, vl, t4, rfl, hf, hg, h3, h4⟩
  have HOK := Lib.hid (item_in hvo X0.out X1.out X2.out h3 h4)
  clear hvo1 hvo2
  replace R0 := Lib.hid (Blk.grown R0.out hg (fun e => HNE.out (by injection e)))
  replace F := Lib.hid hf
  replace G := Lib.hid (grown_trans G.out hg)
  clear hf hg h3 h4 b0
  obtain ⟨y2, hy2⟩ : ∃ y, y = orL [x3, x4] := ⟨_, rfl⟩
  rw [← HY1.out, ← hy2] at HOK
  rw [← hy2]
  clear hy2
  go_upto_region 7 with fail
  obtain ⟨w5, hw5⟩ : ∃ x, x = w3.alloc (.cells #[.string ky, .string vl, .bool false, .int .i64 0, .int .u32 0] 76) := ⟨_, rfl⟩
  have Bb := Lib.hid (show Blk w5 w3.heap.size 76 #[.string ky, .string vl, .bool false, .int .i64 0, .int .u32 0] by rw [hw5]; exact Blk.new _ _ _)
  have HLT := Lib.hid (show w.heap.size + 1 < w3.heap.size from R0.out.lt)
  replace R0 := Lib.hid (show Blk w5 (w.heap.size + 1) 76 #[.string ByteArray.empty, .string ByteArray.empty, .bool false, .int .i64 0, .int .u32 0] by rw [hw5]; exact R0.out.alloc _)
  replace F := Lib.hid (show IsRd w5 g t4 by rw [hw5]; exact Blk.alloc F.out _)
  replace G := Lib.hid (show w.grownBy w5 (some g) by rw [hw5]; exact grown_trans G.out (World.grownBy_alloc _ _ _))
  rw [← hw5]
  clear hw5
  generalize w3.heap.size = gB at *
  refine wp_region_held_drew (S := (fun w' => w'.cell? ⟨gB, 0, none⟩ = some (.string ky) ∧ w'.cell? ⟨gB, 1, none⟩ = some (.string vl) ∧ w'.cell? ⟨gB, 2, none⟩ = some (.bool false) ∧ w'.cell? ⟨gB, 3, none⟩ = some (.int .i64 0) ∧ w'.cell? ⟨gB, 4, none⟩ = some (.int .u32 0))) (by kernel_rfl) (blk5 Bb.out) (fun hHeld => ?_)
  refine tkA (i := 0) ?_
  try simp only [tkP]
  refine tkA (i := 1) ?_
  try simp only [tkP]
  refine tkA (i := 2) ?_
  try simp only [tkP]
  refine tkA (i := 3) ?_
  try simp only [tkP]
  refine wpAnyH_ready (rs := [4]) (by kernel_rfl) (by simp) ?_
  refine tkC (fun K hK => ?_)
  go_simp
  refine hK.out _ _ (blk5 (Bb.out.alloc _)) (fun hHeld => ?_)
  clear hK K
  try simp only [tkP]
  have E := Lib.hid (show Reads (w5.alloc (.cells #[.int .i64 x0, .int .i64 y1, .int .i64 y2] 28)).drew (w5.heap.size + 1) 1 (some ⟨w5.heap.size, 0, none⟩) 3 (ecells [x0, y1, y2]) from (reads_own (n := 3) (Blk.new w5 28 #[.int .i64 x0, .int .i64 y1, .int .i64 y2]) rfl).drew)
  replace E := Lib.hid (show Reads (w5.alloc (.cells #[.int .i64 x0, .int .i64 y1, .int .i64 y2] 28)).drew (w5.alloc (.cells #[.int .i64 x0, .int .i64 y1, .int .i64 y2] 28)).drew.heap.size 1 (some ⟨w5.heap.size, 0, none⟩) 3 (ecells [x0, y1, y2]) from E.out.more (by simp))
  replace Bb := Lib.hid ((Bb.out.alloc (.cells #[.int .i64 x0, .int .i64 y1, .int .i64 y2] 28)).drew)
  replace R0 := Lib.hid ((R0.out.alloc (.cells #[.int .i64 x0, .int .i64 y1, .int .i64 y2] 28)).drew)
  replace F := Lib.hid (show IsRd (w5.alloc (.cells #[.int .i64 x0, .int .i64 y1, .int .i64 y2] 28)).drew g t4 from Blk.alloc F.out _)
  replace G := Lib.hid (grown_trans (grown_trans G.out (World.grownBy_alloc w5 (.cells #[.int .i64 x0, .int .i64 y1, .int .i64 y2] 28) _)) (grown_drew _ _))
  generalize (w5.alloc (.cells #[.int .i64 x0, .int .i64 y1, .int .i64 y2] 28)).drew = w6 at *
  refine wpAnyH_ready (rs := [5]) (by kernel_rfl) (by simp) ?_
  refine tkC (fun K hK => ?_)
  go_simp
  refine (cor_any _ 3 3 [x0, y1, y2] _ E.out (by decide)).mono ?_
  rintro e wq ⟨rfl, rfl⟩
  refine hK.out _ _ (blk5 Bb.out) (fun hHeld => ?_)
  clear hK K
  try simp only [tkP]
  refine wpAnyH_ready (rs := [6]) (by kernel_rfl) (by simp) ?_
  refine tkC (fun K hK => ?_)
  have k0 := R0.out.cell 0
  have k1 := R0.out.cell 1
  have k2 := R0.out.cell 2
  have k3 := R0.out.cell 3
  have k4 := R0.out.cell 4
  have f0 := R0.out.frozen 0
  have f1 := R0.out.frozen 1
  have f2 := R0.out.frozen 2
  have f3 := R0.out.frozen 3
  have f4 := R0.out.frozen 4
  simp at k0 k1 k2 k3 k4
  go_simp
  refine hK.out _ _ (blk5 (((((Bb.out.far (p := ⟨w.heap.size + 1, 0, none⟩) (Nat.ne_of_gt HLT.out) _).far (p := ⟨w.heap.size + 1, 1, none⟩) (Nat.ne_of_gt HLT.out) _).far (p := ⟨w.heap.size + 1, 2, none⟩) (Nat.ne_of_gt HLT.out) _).far (p := ⟨w.heap.size + 1, 3, none⟩) (Nat.ne_of_gt HLT.out) _).far (p := ⟨w.heap.size + 1, 4, none⟩) (Nat.ne_of_gt HLT.out) _)) (fun hHeld => ?_)
  clear hK K
  try simp only [tkP]
  refine tkA (i := 7) ?_
  try simp only [tkP]
  refine wpAnyH_done (by kernel_rfl) ?_ _
  go_wp2_with fail
  exact bodyPost_ret (read_row rfl _ _ _ (w.heap.size + 1) #[.string ky, .string vl, .bool false, .int .i64 0, .int .u32 0] rfl (load_it (five_at R0.out))) rfl ⟨⟨ky, vl, false, 0, 0⟩, orL [x0, y1, y2], t4, rfl, five_far F.out (Ne.symm HNE.out), five_grown G.out (Nat.le_succ _), HOK.out⟩
end Go.Proofs.YtmmjckokjmpfpaaGreat

namespace Go.Proofs.YtmmjckokjmpfpaaGreat
open Go.RowKit
open Go.Lib hiding intOf
attribute [local go_sem ↓] Go.wp_at_zero Go.wp_at_succ

def timesPost (B : Nat) (o : Option (List It × List UInt8)) (e : Ending) (w' : World) : Prop := match o with
 | none => ∃ x : Int, e = .returned (.tuple #[.slice none 0 0, .int .i64 x]) ∧ x ≠ 0
 | some (l, _) => ∃ A n c, e = .returned (.tuple #[.slice A n c, .int .i64 0]) ∧ Reads w' w'.heap.size 5 A n (itc l) ∧ n ≤ c ∧ c ≤ maxLen ∧ ∀ ad, A = some ad → B ≤ ad.block
set_option maxRecDepth 100000 in
set_option maxHeartbeats 12800000 in
theorem ltimes_any {w : World} {g : Nat} {bd : ByteArray} (h : IsRd w g bd) (hs : bd.size ≤ 100000) (ct : Int) :
  Calls Tryz.prog 123 #[.int .i64 ct, .func (.func 124) #[.agg #[.pointer (some ⟨g, 0, none⟩)]] #[]] w fun e w' => w.grownBy w' (some g) ∧ timesPost w.heap.size (parseC ct.toNat bd.data.toList) e w' := by
 have eg1 : ∀ args w, (callFunc 124 args).run Tryz.prog w = .ok (.enter 124 args) w := fun _ _ => by first | rfl | kernel_rfl
 obtain ⟨i0, hi0, hz0, hz1, hz2⟩ := info_parts infoIt
 obtain ⟨hz, hi⟩ := zero_of_info infoItz
 have HI := Lib.hid hi
 clear hi
 have Hbd := Lib.hid hs
 have HF := Lib.hid h
 have HG := Lib.hid (World.grownBy.refl w (some g))
 have hgl := Lib.hid (Blk.lt h)
 clear h hs
 go_enter Tryz.func123, Tryz.ntmps123
 go_wp2_with fail
 go_loopw [6, 7, 8, 10] (fun v _ _ i wr => ∃ (k : Nat) (A : Option Addr) (c : Nat) (l : List It) (r : List UInt8) (s : ByteArray), k ≤ ct.toNat ∧ i = .int .i64 k ∧ v = .slice A k c ∧ Hid (parseC k bd.data.toList = some (l, r)) ∧ Hid (s.data.toList = r) ∧ Hid (IsRd wr g s) ∧ Hid (wr.ownsRow w.heap.size 76 5 (.slice A k c) k (itc l)) ∧ Hid (w.grownBy wr (some g))) (fun _ _ _ i _ => ct.toNat - (intOf i).toNat)
 case atStart => exact ⟨0, none, 0, [], _, bd, Nat.zero_le _, rfl, rfl, Lib.hid rfl, Lib.hid rfl, HF, Lib.hid (World.ownsRow_nil _ _ _ _), HG⟩
 case round =>
  clear HF HG
  obtain ⟨k, A, c, l, r, s, hk, rfl, rfl, HPr, HSr, HF, HO, HG⟩ := hrel
  have hsz := parseC_size HPr.out
  rw [size_list] at hsz
  have hk9 : k ≤ 100000 := by
   have h2 := three_le l
   rw [parseC_len HPr.out] at h2
   have h3 := Hbd.out
   omega
  have hss : s.size ≤ 100000 := by
   have h1 := HSr.out
   have h2 := size_list s
   rw [h1] at h2
   have h3 := Hbd.out
   omega
  clear hsz
  by_cases hlt : (k : Int) < ct
  ·have hkc : k + 1 ≤ ct.toNat := by omega
   go_wp2_with fail
   refine (lread_item HF.out hss).mono ?_
   rintro e w2 ⟨b, x, s', rfl, hf, hg, hok⟩
   have HG2 := Lib.hid (grown_trans HG.out hg)
   unfold itemOk at hok
   rw [HSr.out] at hok
   replace HO := Lib.hid (HO.out.kept hg (own_apart HO.out hgl.out))
   have HF2 := Lib.hid hf
   obtain ⟨ky, vl, ov, ln, hd⟩ := b
   dsimp only
   rcases hsf : stepC r with _ | ⟨b, r'⟩
   ·rw [hsf] at hok
    have hx1 : (x != 0) = true := by simpa using hok
    have hx2 : (x == 0) = false := by simpa using hok
    have HX := Lib.hid hok
    have HE := Lib.hid (show parseC ct.toNat bd.data.toList = none by
     have h1 := parseC_none (parseC_stop HPr.out hsf) (ct.toNat - (k + 1))
     rw [show k + 1 + (ct.toNat - (k + 1)) = ct.toNat by omega] at h1
     exact h1)
    have HG3 := Lib.hid (grown_trans HG2.out (World.grownBy_alloc w2 (.cells #[.string ky, .string vl, .bool ov, .int .i64 ln, .int .u32 hd] 76) _))
    clear hok hsf hf hg HF
    go_wp2_with fail
    go_ret2
    refine ⟨HG3.out, ?_⟩
    rw [HE.out]
    exact ⟨x, rfl, HX.out⟩
   ·rw [hsf] at hok
    obtain ⟨rfl, hb, hr'⟩ := hok
    have HP4 := Lib.hid (parseC_step HPr.out hsf)
    rw [hb] at HP4
    have HS4 := Lib.hid hr'
    clear hf hb hr' hsf hg HF
    obtain ⟨w3, hw3⟩ : ∃ x, x = w2.alloc (.cells #[.string ky, .string vl, .bool ov, .int .i64 ln, .int .u32 hd] 76) := ⟨_, rfl⟩
    have M := Lib.hid (show Blk w3 w2.heap.size 76 #[.string ky, .string vl, .bool ov, .int .i64 ln, .int .u32 hd] by rw [hw3]; exact Blk.new _ _ _)
    replace HG2 := Lib.hid (show w.grownBy w3 (some g) by rw [hw3]; exact grown_trans HG2.out (World.grownBy_alloc _ _ _))
    replace HO := Lib.hid (show w3.ownsRow w.heap.size 76 5 (.slice A k c) k (itc l) by rw [hw3]; exact HO.out.alloc _)
    replace HF2 := Lib.hid (show IsRd w3 g s' by rw [hw3]; exact Blk.alloc HF2.out _)
    go_upto_region 7 with fail
    rw [← hw3]
    clear hw3
    generalize w2.heap.size = gM at *
    have m0 := M.out.cell 0
    have m1 := M.out.cell 1
    have m2 := M.out.cell 2
    have m3 := M.out.cell 3
    have m4 := M.out.cell 4
    simp at m0 m1 m2 m3 m4
    have HA := Lib.hid (HO.out.alloc (.cells #[.string ky, .string vl, .bool ov, .int .i64 ln, .int .u32 hd] 76))
    have hgl2 : w.heap.size ≤ w3.heap.size := HG2.out.size
    have HF3 := Lib.hid (show IsRd (w3.alloc (.cells #[.string ky, .string vl, .bool ov, .int .i64 ln, .int .u32 hd] 76)) g s' from Blk.alloc HF2.out _)
    have HG3 := Lib.hid (grown_trans HG2.out (World.grownBy_alloc w3 (.cells #[.string ky, .string vl, .bool ov, .int .i64 ln, .int .u32 hd] 76) _))
    go_upto_region 8 with (at_builtin; refine wpList_append_any _ rfl (.tmp 20) (.tmp 22) _ rfl w.heap.size 76 i0 _ 5 56 Tryz.underlying62 hi0 hz0 hz1 hz2 rfl (by omega) _ k _ rfl HA.out (w3.heap.size + 1) (some ⟨w3.heap.size, 0, none⟩) 1 1 (It.cells ⟨ky, vl, ov, ln, hd⟩) rfl (reads_own (n := 1) (Blk.new _ _ _) rfl) (it_one _) (by unfold maxLen; omega) (by omega) (by simp; omega) ?_; intro v5 w5 hown4 hg4 hat)
    clear hat
    rw [itc_snoc] at hown4
    obtain ⟨A4, c4, rfl, _, _, _⟩ := own_form hown4
    have HO4 := Lib.hid hown4
    have HF4 := Lib.hid (show IsRd w5 g s' from Blk.grown HF3.out hg4 (own_ne HA.out hgl.out))
    have HG4 := Lib.hid (gr_own HG3.out hg4 (fun j hj => (HA.out.lt j hj).1))
    clear hown4 hg4 HA HF3 HG3 HG2 HO HF2 HG M m0 m1 m2 m3 m4
    go_wp2_with fail
    go_roundw
    case rel =>
     first
      | exact ⟨k + 1, A4, c4, _, r', s', by omega, by go_num, rfl, HP4, HS4, HF4, HO4, HG4⟩
      | ((repeat apply Exists.intro); exact ⟨⟨k + 1, A4, c4, _, r', s', by omega, by go_num, rfl, HP4, HS4, HF4, HO4, HG4⟩, rfl⟩)
    case measure => simp [intOf]; omega
  ·have hkc : k = ct.toNat := by omega
   obtain ⟨A', c', he, h1, h2, _⟩ := own_form HO.out
   injection he with e1 e2 e3
   subst e1
   subst e3
   have HR := Lib.hid (Reads.of_own HO.out)
   have HC := Lib.hid h1
   have HMx := Lib.hid h2
   have HLo := Lib.hid (show ∀ ad, A = some ad → w.heap.size ≤ ad.block from fun ad h => (HO.out.lt ad.block (by rw [h]; rfl)).1)
   have HQ := Lib.hid (show parseC ct.toNat bd.data.toList = some (l, r) by rw [← hkc]; exact HPr.out)
   clear h1 h2 HO hkc
   go_wp2_with fail
   go_ret2
   refine ⟨HG.out, ?_⟩
   rw [HQ.out]
   exact ⟨A, k, c, rfl, HR.out, HC.out, HMx.out, HLo.out⟩
end Go.Proofs.YtmmjckokjmpfpaaGreat

namespace Go.Proofs.YtmmjckokjmpfpaaGreat
open Go.RowKit
open Go.Lib hiding intOf
attribute [local go_sem ↓] Go.wp_at_zero Go.wp_at_succ

theorem lnum_any (n : Nat) (w : World) : Calls Tryz.prog 146 #[.int .u32 n] w fun e w' => e = .returned (.bool (numB n)) ∧ w' = w := by
 by_cases h1 : 2 ≤ n
 ·have h1' : (2 : Int) ≤ n := by omega
  by_cases h2 : n ≤ 2147483647
  ·have h2' : (n : Int) ≤ 2147483647 := by omega
   have HE := Lib.hid (show numB n = true by simp [numB, h1, h2])
   go_enter Tryz.func146, Tryz.ntmps146
   go_wp2
   go_ret
   exact ⟨by rw [HE.out]; rfl, rfl⟩
  ·have h2' : ¬ (n : Int) ≤ 2147483647 := by omega
   have HE := Lib.hid (show numB n = false by simp [numB, h1, h2])
   go_enter Tryz.func146, Tryz.ntmps146
   go_wp2
   go_ret
   exact ⟨by rw [HE.out]; rfl, rfl⟩
 ·have h1' : ¬ (2 : Int) ≤ n := by omega
  have HE := Lib.hid (show numB n = false by simp [numB, h1])
  go_enter Tryz.func146, Tryz.ntmps146
  go_wp2
  go_ret
  exact ⟨by rw [HE.out]; rfl, rfl⟩
set_option maxRecDepth 100000 in
set_option maxHeartbeats 3200000 in
theorem litem_any (b : It) (w : World) : Calls Tryz.prog 164 #[.agg #[.string b.ky, .string b.vl, .bool b.ov, .int .i64 b.ln, .int .u32 b.hd]] w fun e w' => e = .returned (.bool (okIt b)) ∧ Below w.heap.size w w' := by
 obtain ⟨ky, vl, ov, ln, hd⟩ := b
 have HN := fun w => lnum_any hd w
 have HB := Lib.hid ((Below.refl w.heap.size w).alloc (Nat.le_refl _) (.cells #[.string ky, .string vl, .bool ov, .int .i64 ln, .int .u32 hd] 76))
 have hvz : vl.toList.isEmpty = decide (vl.size = 0) := by
  rw [Bool.eq_iff_iff, List.isEmpty_iff_length_eq_zero, ByteArray.toList_eq, size_list, decide_eq_true_eq]
 cases ov
 ·clear hvz
  have hE := okIt_in (b := ⟨ky, vl, false, ln, hd⟩) rfl
  dsimp only at hE
  rcases hk : keyF ky with _ | _
  ·have hkd : decide ((ky.size : Int) > 40) = true := by simp [keyF] at hk; simp; omega
   rw [hk] at hE
   have HE := Lib.hid hE
   clear hE hk
   go_enter Tryz.func164, Tryz.ntmps164
   go_wp2_with fail
   go_ret
   exact ⟨by rw [HE.out]; rfl, HB.out⟩
  have hkd : decide ((ky.size : Int) > 40) = false := by simp [keyF] at hk; simp; omega
  rw [hk] at hE
  by_cases h1 : vl.size ≤ 255
  rotate_left
  ·have h1' : decide ((vl.size : Int) ≤ 255) = false := by simp; omega
   rw [decide_eq_false h1] at hE
   have HE := Lib.hid hE
   clear hE hk h1
   go_enter Tryz.func164, Tryz.ntmps164
   go_wp2_with fail
   go_ret
   exact ⟨by rw [HE.out]; rfl, HB.out⟩
  have h1' : decide ((vl.size : Int) ≤ 255) = true := by simp; omega
  rw [decide_eq_true h1] at hE
  by_cases h2 : ln = 0
  rotate_left
  ·have h2' : (ln == 0) = false := by simpa using h2
   rw [decide_eq_false h2] at hE
   have HE := Lib.hid hE
   clear hE hk h1 h2
   go_enter Tryz.func164, Tryz.ntmps164
   go_wp2_with fail
   go_ret
   exact ⟨by rw [HE.out]; rfl, HB.out⟩
  have h2' : (ln == 0) = true := by simpa using h2
  rw [decide_eq_true h2] at hE
  have h3' : ((hd : Int) == 0) = decide (hd = 0) := by
   by_cases h3 : hd = 0
   ·simp [h3]
   ·simp [h3]
  have HE := Lib.hid hE
  have H3 := Lib.hid h3'
  clear hE hk h1 h2 h3'
  go_enter Tryz.func164, Tryz.ntmps164
  go_wp2_with fail
  go_ret
  exact ⟨by rw [HE.out, ← H3.out]; rfl, HB.out⟩
 ·have hE := okIt_ov (b := ⟨ky, vl, true, ln, hd⟩) rfl
  dsimp only at hE
  rcases hk : keyF ky with _ | _
  ·have hkd : decide ((ky.size : Int) > 40) = true := by simp [keyF] at hk; simp; omega
   rw [hk] at hE
   have HE := Lib.hid hE
   clear hE hk hvz
   go_enter Tryz.func164, Tryz.ntmps164
   go_wp2_with fail
   go_ret
   exact ⟨by rw [HE.out]; rfl, HB.out⟩
  have hkd : decide ((ky.size : Int) > 40) = false := by simp [keyF] at hk; simp; omega
  rw [hk] at hE
  by_cases h1 : vl.size = 0
  rotate_left
  ·rw [decide_eq_false h1] at hE hvz
   have HE := Lib.hid hE
   clear hE hk h1
   go_enter Tryz.func164, Tryz.ntmps164
   go_wp2_with fail
   go_ret
   exact ⟨by rw [HE.out]; rfl, HB.out⟩
  rw [decide_eq_true h1] at hE hvz
  have hvn : vl.toList = [] := List.isEmpty_iff.1 hvz
  clear hvz
  by_cases h2 : 1 ≤ ln
  rotate_left
  ·have h2' : decide (1 ≤ ln) = false := decide_eq_false h2
   rw [h2'] at hE
   have HE := Lib.hid hE
   clear hE hk h1 h2
   go_enter Tryz.func164, Tryz.ntmps164
   go_wp2_with fail
   go_ret
   exact ⟨by rw [HE.out]; rfl, HB.out⟩
  rw [decide_eq_true h2] at hE
  by_cases h3 : ln ≤ 4096
  rotate_left
  ·have h3' : decide (ln ≤ 4096) = false := decide_eq_false h3
   rw [h3'] at hE
   have HE := Lib.hid hE
   clear hE hk h1
   go_enter Tryz.func164, Tryz.ntmps164
   go_wp2_with fail
   go_ret
   exact ⟨by rw [HE.out]; rfl, HB.out⟩
  rw [decide_eq_true h3] at hE
  have HE := Lib.hid hE
  clear hE hk h1
  go_enter Tryz.func164, Tryz.ntmps164
  go_wp2_with (go_at_call 146; refine (HN _).mono ?_; rintro e w' ⟨rfl, rfl⟩)
  go_ret
  exact ⟨by rw [HE.out]; rfl, HB.out⟩
set_option maxRecDepth 100000 in
set_option maxHeartbeats 3200000 in
theorem lsize_big (A : Option Addr) (n c : Nat) (l : List It) (w : World) (hr : Reads w w.heap.size 5 A n (itc l)) (hn : n ≤ 2513169434916) (hx : NearI l) (hs : sizeI l ≤ 9007199254740992) :
  Calls Tryz.prog 145 #[.slice A n c] w fun e w' => e = .returned (.int .i64 (sizeI l)) ∧ Below w.heap.size w w' := by
 have hl := it_len hr
 have HR := Lib.hid hr
 have HL := Lib.hid hl
 have HX := Lib.hid hx
 clear hr hl hx
 go_enter Tryz.func145, Tryz.ntmps145
 go_wp2_with fail
 go_loopw [3, 5, 8] (fun s p i wr => ∃ k : Nat, k ≤ n ∧ i = .int .i64 k ∧ s = .int .i64 (sizeI (l.take k)) ∧ Hid (Below w.heap.size w wr)) (fun _ _ i _ => n - (intOf i).toNat)
 case atStart => exact ⟨0, Nat.zero_le _, rfl, by simp [sizeI], Lib.hid (Below.refl _ _)⟩
 case round =>
  obtain ⟨k, hk, rfl, rfl, HB⟩ := hrel
  by_cases hlt : k < n
  ·obtain ⟨ad, x, rfl, _, hp, hx, hc⟩ := it_at HR.out hlt
   obtain ⟨c0, c1, c2, c3, c4⟩ := hc.below HB.out hp
   have hk0 : (0 : Int) ≤ k := by omega
   have hk1 : (k : Int) < n := by omega
   have hsz := sizeI_take_succ hx
   have hle := sizeI_take_le l (k + 1)
   have hks : sizeI (l.take k) + oneI x ≤ 9007199254740992 := by omega
   have HS := Lib.hid hsz
   have HB2 := Lib.hid (HB.out.alloc HB.out.size (.cells x.cells.toArray 76))
   obtain ⟨ky, vl, ov, ln, hd⟩ := x
   dsimp only [It.cells] at HB2
   clear hx hsz hle hc hp
   cases ov
   ·have ho : oneI ⟨ky, vl, false, ln, hd⟩ = 3 + ky.size + vl.size := rfl
    have hadd : ((sizeI (l.take k) : Nat) : Int) + (2 + (ky.size : Int)) + (1 + (vl.size : Int)) = ((sizeI (l.take (k + 1)) : Nat) : Int) := by rw [HS.out, ho]; omega
    rw [ho] at hks
    have HA := Lib.hid hadd
    clear hadd ho HS
    go_wp2_with fail
    go_roundw
    case rel =>
     have hadd := HA.out
     first
      | exact ⟨k + 1, by omega, by go_num, by rw [hadd], HB2⟩
      | ((repeat apply Exists.intro); exact ⟨⟨k + 1, by omega, by go_num, by rw [hadd], HB2⟩, rfl⟩)
    case measure => simp [intOf]; omega
   ·have ho : oneI ⟨ky, vl, true, ln, hd⟩ = 10 + ky.size := rfl
    have hadd : ((sizeI (l.take k) : Nat) : Int) + (2 + (ky.size : Int)) + 8 = ((sizeI (l.take (k + 1)) : Nat) : Int) := by rw [HS.out, ho]; omega
    rw [ho] at hks
    have HA := Lib.hid hadd
    clear hadd ho HS
    go_wp2_with fail
    go_roundw
    case rel =>
     have hadd := HA.out
     first
      | exact ⟨k + 1, by omega, by go_num, by rw [hadd], HB2⟩
      | ((repeat apply Exists.intro); exact ⟨⟨k + 1, by omega, by go_num, by rw [hadd], HB2⟩, rfl⟩)
    case measure => simp [intOf]; omega
  ·obtain rfl : k = n := by omega
   have ht : l.take k = l := List.take_of_length_le (by rw [HL.out]; exact Nat.le_refl _)
   rw [ht]
   clear hlt
   go_wp2
   go_ret
   exact ⟨rfl, HB.out⟩
def foundL (n k : Nat) : Int := if k < n then (k : Int) else -1
set_option maxRecDepth 100000 in
set_option maxHeartbeats 3200000 in
theorem lidx_any (p : It → Bool) (g : Nat) (lb : Array Value) (eg : ∀ args w, (callFunc g args).run Tryz.prog w = .ok (.enter g args) w) (A : Option Addr) (n c : Nat) (l : List It) (w : World)
  (hr : Reads w w.heap.size 5 A n (itc l)) (hn : n ≤ maxLen)
  (hp : ∀ (W : World) (x : It), Below w.heap.size w W → Calls Tryz.prog g (#[.agg #[.string x.ky, .string x.vl, .bool x.ov, .int .i64 x.ln, .int .u32 x.hd]] ++ lb) W fun e w' => e = .returned (.bool (p x)) ∧ Below w.heap.size w w') :
  Calls Tryz.prog 75 #[.slice A n c, .func (.func g) #[] lb] w fun e w' => e = .returned (.int .i64 (foundL n (l.takeWhile fun x => !p x).length)) ∧ Below w.heap.size w w' := by
 have hl := it_len hr
 have HR := Lib.hid hr
 have HL := Lib.hid hl
 have HP := Lib.hid hp
 unfold maxLen at hn
 clear hr hl hp
 go_enter Tryz.func75, Tryz.ntmps75
 go_wp2_with fail
 go_loopw [5, 8] (fun s i wr => ∃ k : Nat, k ≤ n ∧ i = .int .i64 k ∧ Hid (Below w.heap.size w wr) ∧ Hid (∀ j y, j < k → l[j]? = some y → (!p y) = true)) (fun _ i _ => n - (intOf i).toNat)
 case atStart => exact ⟨0, Nat.zero_le _, rfl, Lib.hid (Below.refl _ _), Lib.hid fun j y hj => absurd hj (by omega)⟩
 case round =>
  obtain ⟨k, hk, rfl, HB, HF⟩ := hrel
  by_cases hlt : k < n
  ·obtain ⟨ad, x, rfl, _, hp, hx, hc⟩ := it_at HR.out hlt
   obtain ⟨hc0, hc1, hc2, hc3, hc4⟩ := hc.below HB.out hp
   have hk0 : (0 : Int) ≤ k := by omega
   have hk1 : (k : Int) < n := by omega
   have HX := Lib.hid hx
   have hcall := HP.out wr x HB.out
   clear hx hc hp
   rcases he : p x with _ | _
   ·rw [he] at hcall
    go_wp2_with fail
    refine hcall.mono ?_
    rintro e w' ⟨rfl, hb'⟩
    go_wp2_with fail
    go_roundw
    case rel =>
     have hrel2 : ∀ j y, j < k + 1 → l[j]? = some y → (!p y) = true := fun j y hj hy => by
      by_cases hjk : j < k
      ·exact HF.out j y hjk hy
      ·obtain rfl : j = k := by omega
       rw [HX.out] at hy
       injection hy with hy
       subst hy
       rw [he]; rfl
     first
      | exact ⟨k + 1, by omega, by go_num, Lib.hid hb', Lib.hid hrel2⟩
      | ((repeat apply Exists.intro); exact ⟨⟨k + 1, by omega, by go_num, Lib.hid hb', Lib.hid hrel2⟩, rfl⟩)
    case measure => simp [intOf]; omega
   ·have HN := Lib.hid (show (l.takeWhile fun x => !p x).length = k from takeWhile_at (p := fun x => !p x) HF.out (by rw [HL.out]; omega) (fun y hy => by rw [HX.out] at hy; injection hy with hy; subst hy; rw [he]; rfl))
    rw [he] at hcall
    go_wp2_with fail
    refine hcall.mono ?_
    rintro e w' ⟨rfl, hb'⟩
    go_wp2_with fail
    go_ret
    refine ⟨?_, hb'⟩
    rw [HN.out]
    simp [foundL, hlt]
  ·obtain rfl : k = n := by omega
   have HN := Lib.hid (show (l.takeWhile fun x => !p x).length = k from takeWhile_at (p := fun x => !p x) HF.out (by rw [HL.out]; exact Nat.le_refl _) (fun y hy => by
    have := (List.getElem?_eq_some_iff.1 hy).1
    rw [HL.out] at this
    omega))
   clear hlt
   go_wp2
   go_ret
   refine ⟨?_, HB.out⟩
   rw [HN.out]
   simp [foundL]
theorem lge_clo (nm : ByteArray) (b : Nat) (x : It) (w : World) (hb : b < w.heap.size) (hc : w.cell? ⟨b, 0, none⟩ = some (.string nm)) :
  Calls Tryz.prog 76 #[.agg #[.string x.ky, .string x.vl, .bool x.ov, .int .i64 x.ln, .int .u32 x.hd], .pointer (some ⟨b, 0, none⟩)] w fun e w' => e = .returned (.bool (!Op.bytesLess x.ky.toList nm.toList)) ∧ Below w.heap.size w w' := by
 have hne : ¬ b = w.heap.size := by omega
 go_enter Tryz.func76, Tryz.ntmps76
 go_wp2_with fail
 go_ret
 exact ⟨rfl, (Below.refl _ _).alloc (Nat.le_refl _) _⟩
theorem foundL_eq (n k : Nat) : foundL n k = if k < n then (k : Int) else -1 := rfl
set_option maxRecDepth 100000 in
set_option maxHeartbeats 3200000 in
theorem lfind_any (A : Option Addr) (n c : Nat) (l : List It) (key : ByteArray) (w : World) (hr : Reads w w.heap.size 5 A n (itc l)) (hn : n ≤ 1000000) :
  Calls Tryz.prog 40 #[.slice A n c, .string key] w fun e w' => e = .returned (.tuple #[.int .i64 (findN l key), .bool (findB l key)]) ∧ Below w.heap.size w w' := by
 have hmf : ∀ (fn : Fn) (first cap : Array Value) (w : World), (Instr.makeFunc fn first cap).run Tryz.prog w = .ok (.func fn first cap) w := fun _ _ _ _ => rfl
 have HL := Lib.hid (it_len hr)
 obtain ⟨w0, hw0⟩ : ∃ x, x = w.alloc (.cells #[.string key] 9) := ⟨_, rfl⟩
 have HB0 := Lib.hid (show Below w.heap.size w w0 by rw [hw0]; exact (Below.refl _ _).alloc (Nat.le_refl _) _)
 have hlt0 : w.heap.size < w0.heap.size := by rw [hw0]; simp
 have N0 := Lib.hid (show w0.cell? ⟨w.heap.size, 0, none⟩ = some (.string key) by rw [hw0]; simp)
 have HR := Lib.hid ((hr.below HB0.out).more (Nat.le_of_lt hlt0))
 have eg1 : ∀ args w, (callFunc 76 args).run Tryz.prog w = .ok (.enter 76 args) w := fun _ _ => by first | rfl | kernel_rfl
 have C1 := lidx_any (fun b => !Op.bytesLess b.ky.toList key.toList) 76 #[.pointer (some ⟨w.heap.size, 0, none⟩)] eg1 A n c l w0 HR.out (by unfold maxLen; omega) (fun W x hb =>
  (lge_clo key w.heap.size x W (Nat.lt_of_lt_of_le hlt0 hb.size) ((hb.cell (p := ⟨w.heap.size, 0, none⟩) hlt0).trans N0.out)).mono fun e w' ⟨h1, h2⟩ => ⟨h1, hb.trans (h2.mono hb.size)⟩)
 have hk : (l.takeWhile fun x : It => !!Op.bytesLess x.ky.toList key.toList).length = findN l key := by simp only [Bool.not_not]; rfl
 rw [hk] at C1
 have hle : findN l key ≤ n := by rw [← HL.out]; exact findN_le l key
 obtain ⟨k, hkn⟩ : ∃ k, k = findN l key := ⟨_, rfl⟩
 have HK := Lib.hid (show findB l key = match l[k]? with | none => false | some b => b.ky.toList == key.toList by rw [hkn]; rfl)
 rw [← hkn] at C1 hle ⊢
 clear hk hkn hr
 by_cases h1 : k < n
 ·obtain ⟨ad, x, rfl, _, hp, hx, hc⟩ := it_at HR.out h1
  have HE := Lib.hid (show findB l key = (x.ky.toList == key.toList) by rw [HK.out, hx])
  rw [foundL_eq, if_pos h1] at C1
  have HC := Lib.hid hc
  have hk0 : (0 : Int) ≤ k := by omega
  have hk1 : (k : Int) < n := by omega
  clear hx hc hle
  go_enter Tryz.func40, Tryz.ntmps40
  go_wp2_with fail
  rw [← hw0]
  clear hw0
  refine C1.mono ?_
  rintro e w1 ⟨rfl, hb1⟩
  obtain ⟨c0, _⟩ := HC.out.below hb1 hp
  have n0 := (hb1.cell (p := ⟨w.heap.size, 0, none⟩) hlt0).trans N0.out
  have HB1 := Lib.hid (HB0.out.trans (hb1.mono HB0.out.size))
  clear hb1 C1 hp
  go_wp2_with fail
  go_quiet (fail)
  go_wp2_with fail
  go_ret2
  rw [HE.out]
  exact ⟨rfl, below_drewN HB1.out _⟩
 ·have hnone : l[k]? = none := List.getElem?_eq_none (by rw [HL.out]; omega)
  have HE := Lib.hid (show findB l key = false by rw [HK.out, hnone])
  rw [foundL_eq, if_neg h1] at C1
  obtain rfl : k = n := by omega
  clear hnone hle
  go_enter Tryz.func40, Tryz.ntmps40
  go_wp2_with fail
  rw [← hw0]
  refine C1.mono ?_
  rintro e w1 ⟨rfl, hb1⟩
  go_wp2_with fail
  go_ret2
  rw [HE.out]
  exact ⟨rfl, HB0.out.trans (hb1.mono HB0.out.size)⟩
end Go.Proofs.YtmmjckokjmpfpaaGreat

