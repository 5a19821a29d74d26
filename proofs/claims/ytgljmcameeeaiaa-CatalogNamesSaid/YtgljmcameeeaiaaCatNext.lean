/-
  Contracts of cmp.Or over errors and of catalog.next: a bucket is taken off a reader, or an error is told.
-/
import Derived.Test.YtgljmcameeeaiaaCatPage
import Derived.Test.YtgljmcameeeaiaaCatParse
import Derived.Test.YtgljmcameeeaiaaRef6Of
import Derived.Deep.CutRange
import Derived.Deep.RegionHeld3
namespace Go.Proofs.Ytgljmcameeeaiaa
open Go.RowKit
open Go.Lib hiding intOf
set_option linter.unusedVariables false
set_option linter.unusedSimpArgs false
attribute [local go_sem ↓] Go.wp_at_zero Go.wp_at_succ

/-- The first number that is not 0. -/
def orL : List Int → Int
  | [] => 0
  | x :: l => if x = 0 then orL l else x
theorem orL_none {l : List Int} (h : ∀ x, x ∈ l → x = 0) : orL l = 0 := by
  induction l with
  | nil => rfl
  | cons x l ih => rw [orL, if_pos (h x List.mem_cons_self)]; exact ih fun y hy => h y (List.mem_cons_of_mem _ hy)
theorem orL_drop {l : List Int} {k : Nat} (h : ∀ j y, j < k → l[j]? = some y → y = 0) : orL l = orL (l.drop k) := by
  induction k generalizing l with
  | zero => rfl
  | succ k ih =>
    cases l with
    | nil => rfl
    | cons x l =>
      rw [orL, if_pos (h 0 x (by omega) rfl), List.drop_succ_cons]
      exact ih fun j y hj hy => h (j + 1) y (by omega) (by simpa using hy)
def ecells (l : List Int) : List Value := l.map fun x => .int .i64 x
set_option maxRecDepth 100000 in
set_option maxHeartbeats 3200000 in
theorem cor_any (A : Option Addr) (n c : Nat) (l : List Int) (w : World) (hr : Reads w w.heap.size 1 A n (ecells l)) (hn : n ≤ 1000000) :
    Calls Try.prog 62 #[.slice A n c] w fun e w' => e = .returned (.int .i64 (orL l)) ∧ w' = w := by
  have hl : l.length = n := by have := hr.1; rw [ecells, List.length_map] at this; omega
  have HL := Lib.hid hl
  have HR := Lib.hid hr
  clear hr hl
  go_enter Try.func62, Try.ntmps62
  go_wp2_with fail
  go_loop [5, 8] (fun _ i => ∃ k : Nat, k ≤ n ∧ i = .int .i64 k ∧ Hid (∀ j y, j < k → l[j]? = some y → y = 0)) (fun _ i => n - (intOf i).toNat)
  case atStart => exact ⟨0, Nat.zero_le _, rfl, Lib.hid fun j y hj => absurd hj (by omega)⟩
  case round =>
    obtain ⟨k, hk, rfl, HF⟩ := hrel
    by_cases hlt : k < n
    · obtain ⟨ad, hA, hb, hcell⟩ := HR.out.2 (by omega)
      subst hA
      have hkl : k < l.length := by rw [HL.out]; exact hlt
      obtain ⟨x, hx⟩ : ∃ x, l[k]? = some x := ⟨l[k], List.getElem?_eq_getElem hkl⟩
      have hc := hcell k (.int .i64 x) (by rw [ecells, List.getElem?_map, hx]; rfl)
      have hc1 : w.cell? (ad.add (k * 1)) = some (.int .i64 x) := by rw [Nat.mul_one]; exact hc
      have hk0 : (0 : Int) ≤ k := by omega
      have hk1 : (k : Int) < n := by omega
      have HX := Lib.hid hx
      clear hx hcell hb hkl
      by_cases h0 : x = 0
      · have h0' : (x == 0) = true := by simp [h0]
        have HF2 := Lib.hid (fun j y (hj : j < k + 1) (hy : l[j]? = some y) => show y = 0 from by
          by_cases hjk : j < k
          · exact HF.out j y hjk hy
          · have e : j = k := by omega
            rw [e, HX.out] at hy
            injection hy with hy
            rw [← hy]; exact h0)
        go_wp2_with fail
        go_round
        case rel =>
          first
            | exact ⟨k + 1, by omega, by go_num, HF2⟩
            | ((repeat apply Exists.intro); exact ⟨⟨k + 1, by omega, by go_num, HF2⟩, rfl⟩)
        case measure => simp [intOf]; omega
      · have h0' : (x == 0) = false := by simp [h0]
        have HE := Lib.hid (show orL l = x by
          rw [orL_drop HF.out]
          have hkl : k < l.length := (List.getElem?_eq_some_iff.1 HX.out).1
          have e : l[k] = x := (List.getElem?_eq_some_iff.1 HX.out).2
          rw [List.drop_eq_getElem_cons hkl, orL, e, if_neg h0])
        go_wp2_with fail
        go_ret
        exact ⟨by rw [HE.out]; rfl, rfl⟩
    · obtain rfl : k = n := by omega
      have HE := Lib.hid (show orL l = 0 by
        rw [orL_drop HF.out, List.drop_of_length_le (by rw [HL.out]; exact Nat.le_refl _)]; rfl)
      clear hlt
      go_wp2_with fail
      go_ret
      exact ⟨by rw [HE.out]; rfl, rfl⟩

/-- A number is taken off a reader, or it is too short, and nothing is. -/
def tookN (k : Nat) (t : ByteArray) (v : Nat) (x : Int) (t' : ByteArray) : Prop := (k ≤ t.size ∧ x = 0 ∧ v = leNat (t.data.toList.take k) ∧ t' = t.extract k t.size) ∨ (t.size < k ∧ x = 7 ∧ t' = t)
theorem cnum_tot {w : World} {g : Nat} {t : ByteArray} (h : IsRd w g t) (k : Nat) (h1 : 1 ≤ k) (h2 : k ≤ 8) :
    Calls Try.prog 60 #[.pointer (some ⟨g, 0, none⟩), .int .i64 k] w fun e w' => ∃ (v : Nat) (x : Int) (t' : ByteArray), e = .returned (.tuple #[.int .u64 v, .int .i64 x]) ∧ IsRd w' g t' ∧ w.grownBy w' (some g) ∧ v < 2 ^ (8 * k) ∧ tookN k t v x t' := by
  by_cases hk : k ≤ t.size
  · refine (number_ok' h k h1 h2 hk).mono ?_
    rintro e w' ⟨rfl, hr, hg⟩
    refine ⟨_, _, _, rfl, hr, hg, ?_, .inl ⟨hk, rfl, rfl, rfl⟩⟩
    have h3 := leNat_lt (t.data.toList.take k)
    have h4 : (t.data.toList.take k).length ≤ k := by rw [List.length_take]; omega
    exact Nat.lt_of_lt_of_le h3 (Nat.pow_le_pow_right (by omega) (by omega))
  · refine (number_more h k (by omega) (by omega) (by omega)).mono ?_
    rintro e w' ⟨rfl, rfl⟩
    exact ⟨0, 7, t, rfl, h, World.grownBy.refl _ _, Nat.two_pow_pos _, .inr ⟨by omega, rfl, rfl⟩⟩
def tookB (k : Nat) (t v : ByteArray) (x : Int) (t' : ByteArray) : Prop := (k ≤ t.size ∧ x = 0 ∧ v = t.extract 0 k ∧ t' = t.extract k t.size) ∨ (t.size < k ∧ x = 7 ∧ t' = t)
theorem cbytes_tot {w : World} {g : Nat} {t : ByteArray} (h : IsRd w g t) (k : Nat) :
    Calls Try.prog 61 #[.pointer (some ⟨g, 0, none⟩), .int .i64 k] w fun e w' => ∃ (v : ByteArray) (x : Int) (t' : ByteArray), e = .returned (.tuple #[.string v, .int .i64 x]) ∧ IsRd w' g t' ∧ w.grownBy w' (some g) ∧ tookB k t v x t' := by
  by_cases hk : k ≤ t.size
  · refine (bytes_ok' h k hk).mono ?_
    rintro e w' ⟨rfl, hr, hg⟩
    exact ⟨_, _, _, rfl, hr, hg, .inl ⟨hk, rfl, rfl, rfl⟩⟩
  · refine (bytes_more h k (by omega)).mono ?_
    rintro e w' ⟨rfl, rfl⟩
    exact ⟨_, _, t, rfl, h, World.grownBy.refl _ _, .inr ⟨by omega, rfl, rfl⟩⟩
theorem grown_cell {w w' : World} {r : Option Nat} (h : w.grownBy w' r) {p : Addr} (hp : w.heap.size ≤ p.block) (v : Value) : w.grownBy (w'.setCell p v) r :=
  ⟨h.os, h.tape, h.output, by simpa [World.setCell] using h.size, fun k hk hne => (Below.heap_setCell _ _ _ _ (by omega)).trans (h.block k hk hne)⟩
theorem load_bk {w : World} {g : Nat} {a0 a1 a2 : Value} (h : Blk w g 33 #[a0, a1, a2]) : (loadVar 33 ⟨g, 0, none⟩).run Try.prog w = .ok (.agg #[a0, a1, a2]) w := by
  obtain ⟨hz, hi⟩ := zero_of_info infoBkz
  exact run_loadVar_row w g 33 33 #[a0, a1, a2] (0, 0) _ h Try.underlying33 rfl hi
def nextOk (s : ByteArray) (nm : ByteArray) (rt : Nat) (ks : Int) (x : Int) (s' : ByteArray) : Prop := match stepB s.data.toList with
  | none => x ≠ 0
  | some (b, r) => x = 0 ∧ b = ⟨nm, rt, ks⟩ ∧ s'.data.toList = r
set_option maxRecDepth 100000 in
set_option maxHeartbeats 6400000 in
theorem cnext_raw {w : World} {g : Nat} {s : ByteArray} (h : IsRd w g s) :
    Calls Try.prog 54 #[.pointer (some ⟨g, 0, none⟩)] w fun e w' => ∃ (v1 v3 v4 : Nat) (nm t1 t2 t3 t4 : ByteArray) (x1 x2 x3 x4 : Int), e = .returned (.tuple #[.agg #[.string nm, .int .u32 v3, .int .i64 v4], .int .i64 (orL [x1, x2, x3, x4])]) ∧ IsRd w' g t4 ∧ w.grownBy w' (some g) ∧ tookN 1 s v1 x1 t1 ∧ tookB v1 t1 nm x2 t2 ∧ tookN 4 t2 v3 x3 t3 ∧ tookN 4 t3 v4 x4 t4 := by
  obtain ⟨hz, hi⟩ := zero_of_info infoBkz
  have HI := Lib.hid hi
  clear hi
  obtain ⟨w0, hw0⟩ : ∃ x, x = w.alloc (.cells #[.string ByteArray.empty, .int .u32 0, .int .i64 0] 33) := ⟨_, rfl⟩
  have R0 := Lib.hid (show Blk w0 w.heap.size 33 #[.string ByteArray.empty, .int .u32 0, .int .i64 0] by rw [hw0]; exact Blk.new _ _ _)
  have F := Lib.hid (show IsRd w0 g s by rw [hw0]; exact Blk.alloc h _)
  have G := Lib.hid (show w.grownBy w0 (some g) by rw [hw0]; exact World.grownBy_alloc _ _ _)
  have hne : w.heap.size ≠ g := by have := Blk.lt h; omega
  have HNE := Lib.hid hne
  go_enter Try.func54, Try.ntmps54
  go_wp2_with fail
  rw [← hw0]
  clear hw0 h hne
  refine (cnum_tot F.out 1 (by decide) (by decide)).mono ?_
  rintro e w1 ⟨v1, x1, t1, rfl, hf, hg, hv1, hx1⟩
  replace R0 := Lib.hid (R0.out.grown hg (fun e => HNE.out (by injection e)))
  replace F := Lib.hid hf
  replace G := Lib.hid (grown_trans G.out hg)
  have X1 := Lib.hid hx1
  clear hf hg hx1
  have hv1' : v1 < 256 := hv1
  clear hv1
  have hwv : IntKind.i64.wrap (v1 : Int) = (v1 : Int) := by rw [IntKind.wrap_i64]; omega
  go_wp2_with fail
  refine (cbytes_tot F.out v1).mono ?_
  rintro e w2 ⟨nm, x2, t2, rfl, hf, hg, hx2⟩
  replace R0 := Lib.hid (R0.out.grown hg (fun e => HNE.out (by injection e)))
  replace F := Lib.hid hf
  replace G := Lib.hid (grown_trans G.out hg)
  have X2 := Lib.hid hx2
  clear hf hg hx2 hwv hv1'
  go_wp2_with fail
  refine (cnum_tot F.out 4 (by decide) (by decide)).mono ?_
  rintro e w3 ⟨v3, x3, t3, rfl, hf, hg, hv3, hx3⟩
  replace R0 := Lib.hid (R0.out.grown hg (fun e => HNE.out (by injection e)))
  replace F := Lib.hid hf
  replace G := Lib.hid (grown_trans G.out hg)
  have X3 := Lib.hid hx3
  clear hf hg hx3
  go_wp2_with fail
  refine (cnum_tot F.out 4 (by decide) (by decide)).mono ?_
  rintro e w4 ⟨v4, x4, t4, rfl, hf, hg, hv4, hx4⟩
  replace R0 := Lib.hid (R0.out.grown hg (fun e => HNE.out (by injection e)))
  replace F := Lib.hid hf
  replace G := Lib.hid (grown_trans G.out hg)
  have X4 := Lib.hid hx4
  clear hf hg hx4
  have hv3' : v3 < 4294967296 := hv3
  have hv4' : v4 < 4294967296 := hv4
  clear hv3 hv4
  have hw3 : IntKind.u32.wrap (v3 : Int) = (v3 : Int) := by rw [IntKind.wrap_u32]; omega
  have hw4 : IntKind.i64.wrap (v4 : Int) = (v4 : Int) := by rw [IntKind.wrap_i64]; omega
  go_upto_region 6 with fail
  obtain ⟨w5, hw5⟩ : ∃ x, x = w4.alloc (.cells #[.string nm, .int .u32 v3, .int .i64 v4] 33) := ⟨_, rfl⟩
  have Bb := Lib.hid (show Blk w5 w4.heap.size 33 #[.string nm, .int .u32 v3, .int .i64 v4] by rw [hw5]; exact Blk.new _ _ _)
  have hlt := R0.out.lt
  have HLT := Lib.hid (show w.heap.size < w4.heap.size from hlt)
  replace R0 := Lib.hid (show Blk w5 w.heap.size 33 #[.string ByteArray.empty, .int .u32 0, .int .i64 0] by rw [hw5]; exact R0.out.alloc _)
  replace F := Lib.hid (show IsRd w5 g t4 by rw [hw5]; exact Blk.alloc F.out _)
  replace G := Lib.hid (show w.grownBy w5 (some g) by rw [hw5]; exact grown_trans G.out (World.grownBy_alloc _ _ _))
  rw [← hw5]
  clear hw5 hlt
  generalize w4.heap.size = gB at *
  refine wp_region_held_drew (S := (fun w' => w'.cell? ⟨gB, 0, none⟩ = some (.string nm) ∧ w'.cell? ⟨gB, 1, none⟩ = some (.int .u32 v3) ∧ w'.cell? ⟨gB, 2, none⟩ = some (.int .i64 v4))) (by kernel_rfl) (blk3 Bb.out) (fun hHeld => ?_)
  refine wpAnyH_takeL (i := 0) (v := ?_) rfl (by kernel_rfl) (by kernel_rfl) (by kernel_rfl) (fun _ _ _ h => h) (Or.inl ⟨by rfl, ?_⟩) (by first | trivial | assumption) ?_
  rotate_left
  · intro wz hSz; (try dsimp only at hSz); go_simp; (try with_reducible rfl)
  try simp only [Act.put, List.setIfInBounds_toArray, List.set_cons_zero, List.set_cons_succ]
  refine wpAnyH_takeL (i := 1) (v := ?_) rfl (by kernel_rfl) (by kernel_rfl) (by kernel_rfl) (fun _ _ _ h => h) (Or.inl ⟨by rfl, ?_⟩) (by first | trivial | assumption) ?_
  rotate_left
  · intro wz hSz; (try dsimp only at hSz); go_simp; (try with_reducible rfl)
  try simp only [Act.put, List.setIfInBounds_toArray, List.set_cons_zero, List.set_cons_succ]
  refine wpAnyH_takeL (i := 2) (v := ?_) rfl (by kernel_rfl) (by kernel_rfl) (by kernel_rfl) (fun _ _ _ h => h) (Or.inl ⟨by rfl, ?_⟩) (by first | trivial | assumption) ?_
  rotate_left
  · intro wz hSz; (try dsimp only at hSz); go_simp; (try with_reducible rfl)
  try simp only [Act.put, List.setIfInBounds_toArray, List.set_cons_zero, List.set_cons_succ]
  refine wpAnyH_takeL (i := 3) (v := ?_) rfl (by kernel_rfl) (by kernel_rfl) (by kernel_rfl) (fun _ _ _ h => h) (Or.inl ⟨by rfl, ?_⟩) (by first | trivial | assumption) ?_
  rotate_left
  · intro wz hSz; (try dsimp only at hSz); go_simp; (try with_reducible rfl)
  try simp only [Act.put, List.setIfInBounds_toArray, List.set_cons_zero, List.set_cons_succ]
  refine wpAnyH_takeL (i := 4) (v := ?_) rfl (by kernel_rfl) (by kernel_rfl) (by kernel_rfl) (fun _ _ _ h => h) (Or.inl ⟨by rfl, ?_⟩) (by first | trivial | assumption) ?_
  rotate_left
  · intro wz hSz; (try dsimp only at hSz); go_simp; (try with_reducible rfl)
  try simp only [Act.put, List.setIfInBounds_toArray, List.set_cons_zero, List.set_cons_succ]
  refine wpAnyH_ready (rs := [5]) (by kernel_rfl) (by simp) ?_
  refine AllReadyH.consL rfl (fun K hK => ?_) AllReadyH.nil
  go_simp
  refine hK.out _ _ (blk3 (Bb.out.alloc _)) (fun hHeld => ?_)
  clear hK K
  try simp only [Act.put, List.setIfInBounds_toArray, List.set_cons_zero, List.set_cons_succ]
  have E := Lib.hid (show Reads (w5.alloc (.cells #[.int .i64 x1, .int .i64 x2, .int .i64 x3, .int .i64 x4] 27)).drew (w5.heap.size + 1) 1 (some ⟨w5.heap.size, 0, none⟩) 4 (ecells [x1, x2, x3, x4]) from (reads_own (n := 4) (Blk.new w5 27 #[.int .i64 x1, .int .i64 x2, .int .i64 x3, .int .i64 x4]) rfl).drew)
  replace E := Lib.hid (show Reads (w5.alloc (.cells #[.int .i64 x1, .int .i64 x2, .int .i64 x3, .int .i64 x4] 27)).drew (w5.alloc (.cells #[.int .i64 x1, .int .i64 x2, .int .i64 x3, .int .i64 x4] 27)).drew.heap.size 1 (some ⟨w5.heap.size, 0, none⟩) 4 (ecells [x1, x2, x3, x4]) from E.out.more (by simp))
  replace Bb := Lib.hid ((Bb.out.alloc (.cells #[.int .i64 x1, .int .i64 x2, .int .i64 x3, .int .i64 x4] 27)).drew)
  replace R0 := Lib.hid ((R0.out.alloc (.cells #[.int .i64 x1, .int .i64 x2, .int .i64 x3, .int .i64 x4] 27)).drew)
  replace F := Lib.hid (show IsRd (w5.alloc (.cells #[.int .i64 x1, .int .i64 x2, .int .i64 x3, .int .i64 x4] 27)).drew g t4 from Blk.alloc F.out _)
  replace G := Lib.hid (grown_trans (grown_trans G.out (World.grownBy_alloc w5 (.cells #[.int .i64 x1, .int .i64 x2, .int .i64 x3, .int .i64 x4] 27) _)) (grown_drew _ _))
  generalize (w5.alloc (.cells #[.int .i64 x1, .int .i64 x2, .int .i64 x3, .int .i64 x4] 27)).drew = w6 at *
  refine wpAnyH_ready (rs := [6]) (by kernel_rfl) (by simp) ?_
  refine AllReadyH.consL rfl (fun K hK => ?_) AllReadyH.nil
  go_simp
  refine (cor_any _ 4 4 [x1, x2, x3, x4] _ E.out (by decide)).mono ?_
  rintro e wq ⟨rfl, rfl⟩
  refine hK.out _ _ (blk3 Bb.out) (fun hHeld => ?_)
  clear hK K
  try simp only [Act.put, List.setIfInBounds_toArray, List.set_cons_zero, List.set_cons_succ]
  refine wpAnyH_ready (rs := [7]) (by kernel_rfl) (by simp) ?_
  refine AllReadyH.consL rfl (fun K hK => ?_) AllReadyH.nil
  have k0 := R0.out.cell 0
  have k1 := R0.out.cell 1
  have k2 := R0.out.cell 2
  have f0 := R0.out.frozen 0
  have f1 := R0.out.frozen 1
  have f2 := R0.out.frozen 2
  simp at k0 k1 k2
  go_simp
  refine hK.out _ _ (blk3 (((Bb.out.far (p := ⟨w.heap.size, 0, none⟩) (Nat.ne_of_gt HLT.out) _).far (p := ⟨w.heap.size, 1, none⟩) (Nat.ne_of_gt HLT.out) _).far (p := ⟨w.heap.size, 2, none⟩) (Nat.ne_of_gt HLT.out) _)) (fun hHeld => ?_)
  clear hK K
  try simp only [Act.put, List.setIfInBounds_toArray, List.set_cons_zero, List.set_cons_succ]
  refine wpAnyH_takeL (i := 8) (v := ?_) rfl (by kernel_rfl) (by kernel_rfl) (by kernel_rfl) (fun _ _ _ h => h) (Or.inl ⟨by rfl, ?_⟩) (by first | trivial | assumption) ?_
  rotate_left
  · intro wz hSz; (try dsimp only at hSz); go_simp; (try with_reducible rfl)
  try simp only [Act.put, List.setIfInBounds_toArray, List.set_cons_zero, List.set_cons_succ]
  refine wpAnyH_done (by kernel_rfl) ?_ _
  go_wp2_with fail
  refine bodyPost_ret (read_row rfl _ _ _ w.heap.size #[.string nm, .int .u32 v3, .int .i64 v4] rfl (load_bk (((R0.out.set_ 0 _).set_ 1 _).set_ 2 _))) rfl ⟨v1, v3, v4, nm, t1, t2, t3, t4, x1, x2, x3, x4, rfl, ?_, ?_, X1.out, X2.out, X3.out, X4.out⟩
  · exact ((Blk.far F.out (p := ⟨w.heap.size, 0, none⟩) (Ne.symm HNE.out) _).far (p := ⟨w.heap.size, 1, none⟩) (Ne.symm HNE.out) _).far (p := ⟨w.heap.size, 2, none⟩) (Ne.symm HNE.out) _
  · exact grown_cell (grown_cell (grown_cell G.out (p := ⟨w.heap.size, 0, none⟩) (Nat.le_refl _) _) (p := ⟨w.heap.size, 1, none⟩) (Nat.le_refl _) _) (p := ⟨w.heap.size, 2, none⟩) (Nat.le_refl _) _
theorem ext_take (t : ByteArray) (k : Nat) : (t.extract 0 k).data.toList = t.data.toList.take k := by simp
theorem ext_drop (t : ByteArray) (k : Nat) : (t.extract k t.size).data.toList = t.data.toList.drop k := by
  have h : t.data.size = t.data.toList.length := by simp
  rw [ByteArray.data_extract, Array.toList_extract, List.extract_eq_take_drop, List.take_of_length_le]
  rw [List.length_drop]
  show _ ≤ t.data.size - k
  omega
theorem leNat_one (n : UInt8) : leNat [n] = n.toNat := by simp [leNat]
theorem next_is {s nm t1 t2 t3 t4 : ByteArray} {v1 v3 v4 : Nat} {x1 x2 x3 x4 : Int} (h1 : tookN 1 s v1 x1 t1) (h2 : tookB v1 t1 nm x2 t2) (h3 : tookN 4 t2 v3 x3 t3) (h4 : tookN 4 t3 v4 x4 t4) :
    nextOk s nm v3 v4 (orL [x1, x2, x3, x4]) t4 := by
  rcases h1 with ⟨a1, rfl, e1, f1⟩ | ⟨a1, rfl, f1⟩
  rotate_left
  · have h0 : s.data.toList = [] := List.eq_nil_of_length_eq_zero (by rw [size_list]; omega)
    simp [nextOk, h0, stepB, orL]
  obtain ⟨n, r, hs⟩ := list_one (l := s.data.toList) (by rw [size_list]; exact a1)
  have hv : v1 = n.toNat := by rw [e1, hs]; exact leNat_one n
  have hr : t1.data.toList = r := by rw [f1, ext_drop, hs]; rfl
  have hl : t1.size = r.length := by rw [← hr, size_list]
  rcases h2 with ⟨a2, rfl, e2, f2⟩ | ⟨a2, rfl, f2⟩
  rotate_left
  · have hn : stepB s.data.toList = none := by rw [hs]; simp only [stepB]; rw [if_pos (by omega)]
    simp [nextOk, hn, orL]
  have hr2 : t2.data.toList = r.drop n.toNat := by rw [f2, ext_drop, hr, hv]
  have hl2 : t2.size = r.length - n.toNat := by rw [← size_list, hr2, List.length_drop]
  rcases h3 with ⟨a3, rfl, e3, f3⟩ | ⟨a3, rfl, f3⟩
  rotate_left
  · have hn : stepB s.data.toList = none := by rw [hs]; simp only [stepB]; rw [if_pos (by omega)]
    simp [nextOk, hn, orL]
  have hr3 : t3.data.toList = (r.drop n.toNat).drop 4 := by rw [f3, ext_drop, hr2]
  have hl3 : t3.size = r.length - n.toNat - 4 := by rw [← size_list, hr3, List.length_drop, List.length_drop]
  rcases h4 with ⟨a4, rfl, e4, f4⟩ | ⟨a4, rfl, f4⟩
  rotate_left
  · have hn : stepB s.data.toList = none := by rw [hs]; simp only [stepB]; rw [if_pos (by omega)]
    simp [nextOk, hn, orL]
  have hr4 : t4.data.toList = ((r.drop n.toNat).drop 4).drop 4 := by rw [f4, ext_drop, hr3]
  have hn : stepB s.data.toList = some (⟨nm, v3, (v4 : Int)⟩, t4.data.toList) := by
    rw [hs]
    simp only [stepB]
    rw [if_neg (by omega), hr4, e3, e4, hr2, hr3]
    have hnm : nm = ⟨(r.take n.toNat).toArray⟩ := by
      apply bytes_ext
      rw [e2, ext_take, hr, hv]
    rw [hnm]
  simp only [nextOk, hn, orL]
  simp
theorem cnext_any {w : World} {g : Nat} {s : ByteArray} (h : IsRd w g s) :
    Calls Try.prog 54 #[.pointer (some ⟨g, 0, none⟩)] w fun e w' => ∃ (nm : ByteArray) (rt kn : Nat) (x : Int) (s' : ByteArray), e = .returned (.tuple #[.agg #[.string nm, .int .u32 rt, .int .i64 kn], .int .i64 x]) ∧ IsRd w' g s' ∧ w.grownBy w' (some g) ∧ nextOk s nm rt kn x s' :=
  (cnext_raw h).mono fun _ _ ⟨v1, v3, v4, nm, t1, t2, t3, t4, x1, x2, x3, x4, he, hf, hg, h1, h2, h3, h4⟩ => ⟨nm, v3, v4, _, t4, he, hf, hg, next_is h1 h2 h3 h4⟩
end Go.Proofs.Ytgljmcameeeaiaa
