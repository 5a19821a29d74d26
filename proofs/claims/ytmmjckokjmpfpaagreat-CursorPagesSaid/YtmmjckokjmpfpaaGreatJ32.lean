/-
  Parts of slices of items and forks as the statements cut them; plain lemmas. No statement is proved here.
-/
import Derived.Test.YtmmjckokjmpfpaaGreatJ31
import Derived.Test.YtmmjckokjmpfpaaGreatJ21
import Derived.Test.YtmmjckokjmpfpaaGreatJ16
import Derived.Lib.SliceRun
set_option linter.unusedVariables false
set_option linter.unusedSimpArgs false
namespace Go.Proofs.YtmmjckokjmpfpaaGreat
open Go.RowKit
open Go.Lib hiding intOf

theorem own_cap {w : World} {base size n c : Nat} {e : TypeId} {A : Option Addr} {xs : List Value} (h : w.ownsRow base e size (.slice A n c) n xs) : n ≤ c := by
 obtain ⟨A', c', he, hc, _, _⟩ := own_form h
 injection he with _ _ e3
 omega
theorem LyStep.row {b : Nat} {V V' : Value} {w w' : World} (h : LyStep b V w V' w') {base size n : Nat} {e : TypeId} {v : Value} {xs : List Value} (ho : w.ownsRow base e size v n xs) (h1 : v.ownBlock ≠ some b) (h2 : ∀ k, V.ownBlock = some k → v.ownBlock ≠ some k) : w'.ownsRow base e size v n xs :=
 h.kept.own ho fun k hk => by
  rintro (rfl | h3)
  ·exact h1 hk
  ·exact h2 k h3 hk
theorem out_grow {w wa w5 : World} {b g n : Nat} {V V' so : Value} {L : List Pg} {xs : List Value} {cs : Array Value} (hL : LyAt wa b V' L) (hS : LyStep b V w V' wa) (ho : wa.ownsRow w.heap.size 45 2 so n xs) (hg : wa.grownBy w5 so.ownBlock) (hb : Blk wa g 41 cs) :
  LyAt w5 b V' L ∧ LyStep b V w V' w5 ∧ Blk w5 g 41 cs :=
 have hk : Kept (fun k => so.ownBlock = some k) wa w5 := Kept.of_grown hg fun k e => e
 ⟨hL.kept hk (own_ne_blk ho hL.blk (by decide)) (fun k hv hf => own_ne_own hL.own ho (by decide) hv hf), ⟨hS.kept.then hk (fun i hi => .inr (own_base ho i hi)), hS.own⟩, Blk.grown hb hg (fun e => own_ne_blk ho hb (by decide) e.symm)⟩
theorem pgs_grow {w wa w7 : World} {b n : Nat} {V V' V7 so : Value} {L L' : List Pg} {xs : List Value} (hS : LyStep b V w V' wa) (hL : LyAt wa b V' L) (hg : wa.grownBy w7 V'.ownBlock) (ho : w7.ownsRow 0 41 6 V7 L'.length (pgcs L')) (hv : V7.ownBlock = V'.ownBlock ∨ V7.ownBlock = some wa.heap.size) (hO : wa.ownsRow w.heap.size 45 2 so n xs) :
  LyAt (w7.setCell ⟨b, 1, none⟩ V7) b V7 L' ∧ LyStep b V w V7 (w7.setCell ⟨b, 1, none⟩ V7) ∧ (w7.setCell ⟨b, 1, none⟩ V7).ownsRow w.heap.size 45 2 so n xs := by
 obtain ⟨h1, h2⟩ := hL.put hg ho hv
 exact ⟨h1, hS.trans h2, h2.row hO (own_ne_blk hO hL.blk (by decide)) (fun k hv hk => own_ne_own hL.own hO (by decide) hv hk)⟩
theorem sizeI_appendY (a b : List It) : sizeI (a ++ b) = sizeI a + sizeI b := by
 induction a with
 | nil => simp [sizeI]
 | cons x a ih => simp only [List.cons_append, sizeI, ih]; omega
theorem sizeF_appendY (a b : List Fk) : sizeF (a ++ b) = sizeF a + sizeF b := by
 induction a with
 | nil => simp [sizeF]
 | cons x a ih => simp only [List.cons_append, sizeF, ih]; omega
theorem sizeI_dropY (l : List It) (k : Nat) : sizeI (l.drop k) ≤ sizeI l := by
 have := sizeI_appendY (l.take k) (l.drop k)
 rw [List.take_append_drop] at this
 omega
theorem sizeF_dropY (l : List Fk) (k : Nat) : sizeF (l.drop k) ≤ sizeF l := by
 have := sizeF_appendY (l.take k) (l.drop k)
 rw [List.take_append_drop] at this
 omega
theorem sizeI_takeY (l : List It) (k : Nat) : sizeI (l.take k) ≤ sizeI l := by
 have := sizeI_appendY (l.take k) (l.drop k)
 rw [List.take_append_drop] at this
 omega
theorem sizeF_takeY (l : List Fk) (k : Nat) : sizeF (l.take k) ≤ sizeF l := by
 have := sizeF_appendY (l.take k) (l.drop k)
 rw [List.take_append_drop] at this
 omega
theorem partI (A : Option Addr) (n c i j : Nat) (zi zj : Int) (hzi : zi = i) (hzj : zj = j) (hi : i ≤ j) (hj : j ≤ n) (hc : n ≤ c) : ∃ X r, (∀ w : World, (Instr.sliceAt 62 (.slice A n c) (some (.int .i64 zi)) (some (.int .i64 zj)) none).run Tryz.prog w = .ok (.slice X (j - i) r) w) ∧
  ∀ (w : World) (B : Nat) (l : List It), Reads w B 5 A n (itc l) → Reads w B 5 X (j - i) (itc ((l.drop i).take (j - i))) := by
 refine ⟨(if c = i then A else A.map (·.add (i * 5))), c - i, fun w => ?_, fun w B l h => ?_⟩
 ·obtain ⟨i0, hi0, hz0, hz1, hz2⟩ := info_parts infoIt
  have he : Tryz.prog.elem 62 = 76 := by kernel_rfl
  have hu : Tryz.prog.underlying 62 = some (.slice (Tryz.prog.elem 62)) := by rw [he]; exact Tryz.underlying62
  rw [run_sliceAt_slice w _ _ _ _ _ hu, run_slice_lh w _ A n c hu .i64 .i64 zi zj (by omega) (by omega) (by omega), he]
  simp [sizeOf, typeInfo, hi0, hz1, sliced, hzi, hzj]
 ·have h1 := rows_drop (fun x => It.cells_len x) h (show i ≤ n by omega) hc
  exact rows_take (fun x => It.cells_len x) h1 (show j - i ≤ n - i by omega)
theorem partF (A : Option Addr) (n c i j : Nat) (zi zj : Int) (hzi : zi = i) (hzj : zj = j) (hi : i ≤ j) (hj : j ≤ n) (hc : n ≤ c) : ∃ X r, (∀ w : World, (Instr.sliceAt 46 (.slice A n c) (some (.int .i64 zi)) (some (.int .i64 zj)) none).run Tryz.prog w = .ok (.slice X (j - i) r) w) ∧
  ∀ (w : World) (B : Nat) (l : List Fk), Reads w B 2 A n (fkc l) → Reads w B 2 X (j - i) (fkc ((l.drop i).take (j - i))) := by
 refine ⟨(if c = i then A else A.map (·.add (i * 2))), c - i, fun w => ?_, fun w B l h => ?_⟩
 ·obtain ⟨i0, hi0, hz0, hz1, hz2⟩ := info_parts infoFk
  have he : Tryz.prog.elem 46 = 45 := by kernel_rfl
  have hu : Tryz.prog.underlying 46 = some (.slice (Tryz.prog.elem 46)) := by rw [he]; exact Tryz.underlying46
  rw [run_sliceAt_slice w _ _ _ _ _ hu, run_slice_lh w _ A n c hu .i64 .i64 zi zj (by omega) (by omega) (by omega), he]
  simp [sizeOf, typeInfo, hi0, hz1, sliced, hzi, hzj]
 ·have h1 := rows_drop (fun x => Fk.cells_len x) h (show i ≤ n by omega) hc
  exact rows_take (fun x => Fk.cells_len x) h1 (show j - i ≤ n - i by omega)
theorem nearI_part {l r : List It} (h : NearI l) (k m : Nat) (hr : r = l.drop k) : NearI (r.take m) := fun x hx => h x (List.mem_of_mem_drop (hr ▸ List.mem_of_mem_take hx))
def brMay (z : Nat) : Nat → List (List Fk) → Bool
 | _, [] => true
 | n, p :: t => mayP7 z n 3 p && brMay z (n + 1) t
theorem brMay_append (z : Nat) : ∀ (a b : List (List Fk)) (n : Nat), brMay z n (a ++ b) = (brMay z n a && brMay z (n + a.length) b)
 | [], b, n => by simp [brMay]
 | p :: a, b, n => by simp [brMay, brMay_append z a b (n + 1), Nat.add_comm, Nat.add_left_comm, Bool.and_assoc]
end Go.Proofs.YtmmjckokjmpfpaaGreat

