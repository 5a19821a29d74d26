/-
  Contracts of package frame's reader: what page returns, and with which error it panics. (Written by wip/tools/gen_frameread.py.)
-/
import Derived.Test.YtmmjckokjmpfpaaGreatJ3
import Derived.Deep.RegionHeld3
import Derived.Deep.DeepCutAuto
set_option linter.unusedVariables false
set_option linter.unusedSimpArgs false
namespace Go.Proofs.YtmmjckokjmpfpaaGreat
open Go.RowKit
open Go.Lib
attribute [local go_sem ↓] Go.wp_at_zero Go.wp_at_succ

theorem rd_cells {w : World} {g : Nat} {size : Int} {s : ByteArray} (h : Blk w g 206 #[.int .i64 size, .string s]) : w.cell? ⟨g, 0, none⟩ = some (.int .i64 size) ∧ w.cell? ⟨g, 1, none⟩ = some (.string s) := ⟨h.cell 0, h.cell 1⟩
def Dies (e : Ending) (n : Int) : Prop := e = .panicked [{ v := .iface 204 (.int .i64 n), recovered := false }]

theorem rpage_len (size : Int) (s : ByteArray) (n : Nat) (w : World) (h1 : goodSize size = true) (h2 : ¬ (s.size : Int) = size) :
    Calls Tryz.prog 133 #[.agg #[.int .i64 size, .string s], .int .u32 n] w fun e w' => Dies e 4 ∧ Below w.heap.size w w' := by
  have HG := fun w => dgood_is size _ w h1
  have q2 : ((s.size : Int) == size) = false := by simpa using h2
  obtain ⟨w0, hw0⟩ : ∃ w0, w0 = (w.alloc (.cells #[.int .i64 size, .string s] 206)).alloc (.cells #[.int .i64 0, .int .i64 0, .int .u32 0, .int .u32 0, .int .u64 0, .string ByteArray.empty] 41) := ⟨_, rfl⟩
  have b0 : Blk w0 w.heap.size 206 #[.int .i64 size, .string s] := by rw [hw0]; exact (Blk.new _ _ _).alloc _
  have r0 : Blk w0 (w.heap.size + 1) 41 #[.int .i64 0, .int .i64 0, .int .u32 0, .int .u32 0, .int .u64 0, .string ByteArray.empty] := by
    rw [hw0]
    have := Blk.new (w.alloc (.cells #[.int .i64 size, .string s] 206)) 41 #[.int .i64 0, .int .i64 0, .int .u32 0, .int .u32 0, .int .u64 0, .string ByteArray.empty]
    simpa using this
  have hb0 : Below w.heap.size w w0 := by rw [hw0]; exact ((Below.refl _ _).alloc (Nat.le_refl _) _).alloc (by simp) _
  have hlt : w.heap.size + 1 < w0.heap.size := by rw [hw0]; simp
  obtain ⟨hz, hi⟩ := zero_of_info infoPg
  have HI := Lib.hid hi
  clear hi
  have B0 := Lib.hid b0
  have R0 := Lib.hid r0
  have HB0 := Lib.hid hb0
  have HLT := Lib.hid hlt
  clear b0 r0 hb0 hlt
  go_enter Tryz.func133, Tryz.ntmps133
  go_wp2_with fail
  rw [← hw0]
  clear hw0
  replace B0 := Lib.hid (B0.out.drew)
  replace R0 := Lib.hid (R0.out.drew)
  replace HB0 := Lib.hid (HB0.out.drew)
  replace HLT := Lib.hid (show w.heap.size + 1 < w0.drew.heap.size from HLT.out)
  go_region_held3 (fun w' => w'.cell? ⟨w.heap.size, 0, none⟩ = some (.int .i64 size) ∧ w'.cell? ⟨w.heap.size, 1, none⟩ = some (.string s))
    (exact ⟨B0.out.cell 0, B0.out.cell 1⟩)
    (first
    | (go_at_call 71
       with_reducible refine (HG _).mono ?_
       rintro e w2 ⟨rfl, rfl⟩)
    | (go_at_call 153
       with_reducible refine (need_yes _ _ _ _).mono ?_
       rintro e w2 ⟨rfl, hb2⟩
       replace HB0 := Lib.hid (HB0.out.trans (hb2.mono HB0.out.size))
       replace B0 := Lib.hid (B0.out.below hb2 (Nat.lt_of_succ_lt HLT.out))
       replace R0 := Lib.hid (R0.out.below hb2 HLT.out)
       replace HLT := Lib.hid (Nat.lt_of_lt_of_le HLT.out hb2.size)
       clear hb2))
  have k0 := B0.out.cell 0
  have k1 := B0.out.cell 1
  simp at k0 k1
  go_wp2_with fail
  refine (need_no _ _ _ _).mono ?_
  rintro e w9 ⟨rfl, hb9⟩
  exact ⟨rfl, rfl, HB0.out.trans (hb9.mono HB0.out.size)⟩
theorem rpage_sum (size : Int) (s : ByteArray) (n : Nat) (w : World) (h1 : goodSize size = true) (h2 : (s.size : Int) = size) (h3 : ¬ leNat (List.take 4 s.data.toList) = crcM 0 (List.drop 4 s.data.toList)) :
    Calls Tryz.prog 133 #[.agg #[.int .i64 size, .string s], .int .u32 n] w fun e w' => Dies e 4 ∧ Below w.heap.size w w' := by
  obtain ⟨z, z0, z1, z2, z3⟩ := good_nat h1
  have z4 : s.size = z := by omega
  have HG := fun w => dgood_is size _ w h1
  have q2 : ((s.size : Int) == size) = true := by simpa using h2
  obtain ⟨v1, hv1⟩ : ∃ v1, v1 = leNat (List.take 4 s.data.toList) := ⟨_, rfl⟩
  have HN1 : ∀ w : World, Calls Tryz.prog 154 #[.agg #[.int .i64 size, .string s], .int .i64 0, .int .i64 4] w fun e w' => e = .returned (.int .u64 (v1 : Int)) ∧ Below w.heap.size w w' := fun w => by
    rw [hv1]; exact rnum size s 0 4 w (by omega) (by omega) (by omega) (by omega)
  obtain ⟨cr, hcr⟩ : ∃ cr, cr = crcM 0 (List.drop 4 s.data.toList) := ⟨_, rfl⟩
  have hcl : cr < 4294967296 := by rw [hcr]; exact crcM_lt _ _
  have HO : ∀ w : World, Calls Tryz.prog 155 #[.string (s.extract 4 s.size)] w fun e w' => e = .returned (.int .u32 (cr : Int)) ∧ Below w.heap.size w w' := fun w => by
    have h := of_any (s.extract 4 s.size) w (by rw [ByteArray.size_extract]; unfold maxLen; omega)
    have e : (s.extract 4 s.size).data.toList = List.drop 4 s.data.toList := by
      rw [Lib.extract_data]; rw [List.take_of_length_le]; rw [List.length_drop, size_list]; exact Nat.le_refl _
    rw [e, ← hcr] at h
    exact h
  rw [← hv1, ← hcr] at h3
  have hw8 := u64_nat cr (by omega)
  have q4 : (4 : Int) ≤ s.size := by omega
  have q3 : ((v1 : Int) == (cr : Int)) = false := by simp; omega
  clear hcl hcr hv1
  clear h1 h2 h3 z0 z1 z2 z3 z4 z
  obtain ⟨w0, hw0⟩ : ∃ w0, w0 = (w.alloc (.cells #[.int .i64 size, .string s] 206)).alloc (.cells #[.int .i64 0, .int .i64 0, .int .u32 0, .int .u32 0, .int .u64 0, .string ByteArray.empty] 41) := ⟨_, rfl⟩
  have b0 : Blk w0 w.heap.size 206 #[.int .i64 size, .string s] := by rw [hw0]; exact (Blk.new _ _ _).alloc _
  have r0 : Blk w0 (w.heap.size + 1) 41 #[.int .i64 0, .int .i64 0, .int .u32 0, .int .u32 0, .int .u64 0, .string ByteArray.empty] := by
    rw [hw0]
    have := Blk.new (w.alloc (.cells #[.int .i64 size, .string s] 206)) 41 #[.int .i64 0, .int .i64 0, .int .u32 0, .int .u32 0, .int .u64 0, .string ByteArray.empty]
    simpa using this
  have hb0 : Below w.heap.size w w0 := by rw [hw0]; exact ((Below.refl _ _).alloc (Nat.le_refl _) _).alloc (by simp) _
  have hlt : w.heap.size + 1 < w0.heap.size := by rw [hw0]; simp
  obtain ⟨hz, hi⟩ := zero_of_info infoPg
  have HI := Lib.hid hi
  clear hi
  have B0 := Lib.hid b0
  have R0 := Lib.hid r0
  have HB0 := Lib.hid hb0
  have HLT := Lib.hid hlt
  clear b0 r0 hb0 hlt
  go_enter Tryz.func133, Tryz.ntmps133
  go_wp2_with fail
  rw [← hw0]
  clear hw0
  replace B0 := Lib.hid (B0.out.drew)
  replace R0 := Lib.hid (R0.out.drew)
  replace HB0 := Lib.hid (HB0.out.drew)
  replace HLT := Lib.hid (show w.heap.size + 1 < w0.drew.heap.size from HLT.out)
  go_region_held3 (fun w' => w'.cell? ⟨w.heap.size, 0, none⟩ = some (.int .i64 size) ∧ w'.cell? ⟨w.heap.size, 1, none⟩ = some (.string s))
    (exact ⟨B0.out.cell 0, B0.out.cell 1⟩)
    (first
    | (go_at_call 71
       with_reducible refine (HG _).mono ?_
       rintro e w2 ⟨rfl, rfl⟩)
    | (go_at_call 153
       with_reducible refine (need_yes _ _ _ _).mono ?_
       rintro e w2 ⟨rfl, hb2⟩
       replace HB0 := Lib.hid (HB0.out.trans (hb2.mono HB0.out.size))
       replace B0 := Lib.hid (B0.out.below hb2 (Nat.lt_of_succ_lt HLT.out))
       replace R0 := Lib.hid (R0.out.below hb2 HLT.out)
       replace HLT := Lib.hid (Nat.lt_of_lt_of_le HLT.out hb2.size)
       clear hb2))
  have k0 := B0.out.cell 0
  have k1 := B0.out.cell 1
  simp at k0 k1
  go_wp2_with fail
  refine (need_yes _ _ _ _).mono ?_
  rintro e w3 ⟨rfl, hb2⟩
  replace HB0 := Lib.hid (HB0.out.trans (hb2.mono HB0.out.size))
  replace B0 := Lib.hid (B0.out.below hb2 (Nat.lt_of_succ_lt HLT.out))
  replace R0 := Lib.hid (R0.out.below hb2 HLT.out)
  replace HLT := Lib.hid (Nat.lt_of_lt_of_le HLT.out hb2.size)
  clear k0 k1
  clear hb2
  go_wp2_with fail
  replace B0 := Lib.hid (B0.out.drew)
  replace R0 := Lib.hid (R0.out.drew)
  replace HB0 := Lib.hid (HB0.out.drew)
  replace HLT := Lib.hid (show w.heap.size + 1 < w3.drew.heap.size from HLT.out)
  refine wp_region_held_drew (S := (fun w' => w'.cell? ⟨w.heap.size, 0, none⟩ = some (.int .i64 size) ∧ w'.cell? ⟨w.heap.size, 1, none⟩ = some (.string s))) (by kernel_rfl) ⟨B0.out.cell 0, B0.out.cell 1⟩ (fun hHeld => ?_)
  refine tkA (i := 0) ?_
  try simp only [tkP]
  refine tkA (i := 1) ?_
  try simp only [tkP]
  refine tkA (i := 3) ?_
  try simp only [tkP]
  refine tkA (i := 4) ?_
  try simp only [tkP]
  refine tkA (i := 5) ?_
  try simp only [tkP]
  refine wpAnyH_ready (rs := [2]) (by kernel_rfl) (by simp) ?_
  refine tkC (fun K hK => ?_)
  go_simp
  refine (HN1 _).mono ?_
  rintro e w4 ⟨rfl, hb2⟩
  replace HB0 := Lib.hid (HB0.out.trans (hb2.mono HB0.out.size))
  replace B0 := Lib.hid (B0.out.below hb2 (Nat.lt_of_succ_lt HLT.out))
  replace R0 := Lib.hid (R0.out.below hb2 HLT.out)
  replace HLT := Lib.hid (Nat.lt_of_lt_of_le HLT.out hb2.size)
  clear hb2
  refine hK.out _ _ (⟨B0.out.cell 0, B0.out.cell 1⟩) (fun hHeld => ?_)
  clear hK K
  try simp only [tkP]
  refine wpAnyH_ready (rs := [6]) (by kernel_rfl) (by simp) ?_
  refine tkC (fun K hK => ?_)
  go_simp
  refine (HO _).mono ?_
  rintro e w5 ⟨rfl, hb2⟩
  replace HB0 := Lib.hid (HB0.out.trans (hb2.mono HB0.out.size))
  replace B0 := Lib.hid (B0.out.below hb2 (Nat.lt_of_succ_lt HLT.out))
  replace R0 := Lib.hid (R0.out.below hb2 HLT.out)
  replace HLT := Lib.hid (Nat.lt_of_lt_of_le HLT.out hb2.size)
  clear hb2
  refine hK.out _ _ (⟨B0.out.cell 0, B0.out.cell 1⟩) (fun hHeld => ?_)
  clear hK K
  try simp only [tkP]
  refine tkA (i := 7) ?_
  try simp only [tkP]
  refine tkA (i := 8) ?_
  try simp only [tkP]
  refine wpAnyH_ready (rs := [9]) (by kernel_rfl) (by simp) ?_
  refine tkC (fun K hK => ?_)
  go_simp
  refine (need_no _ _ _ _).mono ?_
  rintro e w9 ⟨rfl, hb9⟩
  exact ⟨rfl, rfl, HB0.out.trans (hb9.mono HB0.out.size)⟩
theorem rpage_ver (size : Int) (s : ByteArray) (n : Nat) (w : World) (h1 : goodSize size = true) (h2 : (s.size : Int) = size) (h3 : leNat (List.take 4 s.data.toList) = crcM 0 (List.drop 4 s.data.toList)) (h4 : ¬ leNat (List.take 1 (List.drop 5 s.data.toList)) = 1) :
    Calls Tryz.prog 133 #[.agg #[.int .i64 size, .string s], .int .u32 n] w fun e w' => Dies e 4 ∧ Below w.heap.size w w' := by
  obtain ⟨z, z0, z1, z2, z3⟩ := good_nat h1
  have z4 : s.size = z := by omega
  have HG := fun w => dgood_is size _ w h1
  have q2 : ((s.size : Int) == size) = true := by simpa using h2
  obtain ⟨v1, hv1⟩ : ∃ v1, v1 = leNat (List.take 4 s.data.toList) := ⟨_, rfl⟩
  have HN1 : ∀ w : World, Calls Tryz.prog 154 #[.agg #[.int .i64 size, .string s], .int .i64 0, .int .i64 4] w fun e w' => e = .returned (.int .u64 (v1 : Int)) ∧ Below w.heap.size w w' := fun w => by
    rw [hv1]; exact rnum size s 0 4 w (by omega) (by omega) (by omega) (by omega)
  obtain ⟨cr, hcr⟩ : ∃ cr, cr = crcM 0 (List.drop 4 s.data.toList) := ⟨_, rfl⟩
  have hcl : cr < 4294967296 := by rw [hcr]; exact crcM_lt _ _
  have HO : ∀ w : World, Calls Tryz.prog 155 #[.string (s.extract 4 s.size)] w fun e w' => e = .returned (.int .u32 (cr : Int)) ∧ Below w.heap.size w w' := fun w => by
    have h := of_any (s.extract 4 s.size) w (by rw [ByteArray.size_extract]; unfold maxLen; omega)
    have e : (s.extract 4 s.size).data.toList = List.drop 4 s.data.toList := by
      rw [Lib.extract_data]; rw [List.take_of_length_le]; rw [List.length_drop, size_list]; exact Nat.le_refl _
    rw [e, ← hcr] at h
    exact h
  rw [← hv1, ← hcr] at h3
  have hw8 := u64_nat cr (by omega)
  have q4 : (4 : Int) ≤ s.size := by omega
  have q3 : ((v1 : Int) == (cr : Int)) = true := by rw [h3]; simp
  clear hcl hcr hv1
  obtain ⟨v2, hv2⟩ : ∃ v2, v2 = leNat (List.take 1 (List.drop 5 s.data.toList)) := ⟨_, rfl⟩
  have HN2 : ∀ w : World, Calls Tryz.prog 154 #[.agg #[.int .i64 size, .string s], .int .i64 5, .int .i64 6] w fun e w' => e = .returned (.int .u64 (v2 : Int)) ∧ Below w.heap.size w w' := fun w => by
    rw [hv2]; exact rnum size s 5 6 w (by omega) (by omega) (by omega) (by omega)
  rw [← hv2] at h4
  have q5 : ((v2 : Int) == 1) = false := by simp; omega
  clear hv2
  clear h1 h2 h3 h4 z0 z1 z2 z3 z4 z
  obtain ⟨w0, hw0⟩ : ∃ w0, w0 = (w.alloc (.cells #[.int .i64 size, .string s] 206)).alloc (.cells #[.int .i64 0, .int .i64 0, .int .u32 0, .int .u32 0, .int .u64 0, .string ByteArray.empty] 41) := ⟨_, rfl⟩
  have b0 : Blk w0 w.heap.size 206 #[.int .i64 size, .string s] := by rw [hw0]; exact (Blk.new _ _ _).alloc _
  have r0 : Blk w0 (w.heap.size + 1) 41 #[.int .i64 0, .int .i64 0, .int .u32 0, .int .u32 0, .int .u64 0, .string ByteArray.empty] := by
    rw [hw0]
    have := Blk.new (w.alloc (.cells #[.int .i64 size, .string s] 206)) 41 #[.int .i64 0, .int .i64 0, .int .u32 0, .int .u32 0, .int .u64 0, .string ByteArray.empty]
    simpa using this
  have hb0 : Below w.heap.size w w0 := by rw [hw0]; exact ((Below.refl _ _).alloc (Nat.le_refl _) _).alloc (by simp) _
  have hlt : w.heap.size + 1 < w0.heap.size := by rw [hw0]; simp
  obtain ⟨hz, hi⟩ := zero_of_info infoPg
  have HI := Lib.hid hi
  clear hi
  have B0 := Lib.hid b0
  have R0 := Lib.hid r0
  have HB0 := Lib.hid hb0
  have HLT := Lib.hid hlt
  clear b0 r0 hb0 hlt
  go_enter Tryz.func133, Tryz.ntmps133
  go_wp2_with fail
  rw [← hw0]
  clear hw0
  replace B0 := Lib.hid (B0.out.drew)
  replace R0 := Lib.hid (R0.out.drew)
  replace HB0 := Lib.hid (HB0.out.drew)
  replace HLT := Lib.hid (show w.heap.size + 1 < w0.drew.heap.size from HLT.out)
  go_region_held3 (fun w' => w'.cell? ⟨w.heap.size, 0, none⟩ = some (.int .i64 size) ∧ w'.cell? ⟨w.heap.size, 1, none⟩ = some (.string s))
    (exact ⟨B0.out.cell 0, B0.out.cell 1⟩)
    (first
    | (go_at_call 71
       with_reducible refine (HG _).mono ?_
       rintro e w2 ⟨rfl, rfl⟩)
    | (go_at_call 153
       with_reducible refine (need_yes _ _ _ _).mono ?_
       rintro e w2 ⟨rfl, hb2⟩
       replace HB0 := Lib.hid (HB0.out.trans (hb2.mono HB0.out.size))
       replace B0 := Lib.hid (B0.out.below hb2 (Nat.lt_of_succ_lt HLT.out))
       replace R0 := Lib.hid (R0.out.below hb2 HLT.out)
       replace HLT := Lib.hid (Nat.lt_of_lt_of_le HLT.out hb2.size)
       clear hb2))
  have k0 := B0.out.cell 0
  have k1 := B0.out.cell 1
  simp at k0 k1
  go_wp2_with fail
  refine (need_yes _ _ _ _).mono ?_
  rintro e w3 ⟨rfl, hb2⟩
  replace HB0 := Lib.hid (HB0.out.trans (hb2.mono HB0.out.size))
  replace B0 := Lib.hid (B0.out.below hb2 (Nat.lt_of_succ_lt HLT.out))
  replace R0 := Lib.hid (R0.out.below hb2 HLT.out)
  replace HLT := Lib.hid (Nat.lt_of_lt_of_le HLT.out hb2.size)
  clear k0 k1
  clear hb2
  go_wp2_with fail
  replace B0 := Lib.hid (B0.out.drew)
  replace R0 := Lib.hid (R0.out.drew)
  replace HB0 := Lib.hid (HB0.out.drew)
  replace HLT := Lib.hid (show w.heap.size + 1 < w3.drew.heap.size from HLT.out)
  go_region_held3 (fun w' => w'.cell? ⟨w.heap.size, 0, none⟩ = some (.int .i64 size) ∧ w'.cell? ⟨w.heap.size, 1, none⟩ = some (.string s))
    (exact ⟨B0.out.cell 0, B0.out.cell 1⟩)
    (first
    | (go_at_call 154
       with_reducible refine (HN1 _).mono ?_
       rintro e w2 ⟨rfl, hb2⟩
       replace HB0 := Lib.hid (HB0.out.trans (hb2.mono HB0.out.size))
       replace B0 := Lib.hid (B0.out.below hb2 (Nat.lt_of_succ_lt HLT.out))
       replace R0 := Lib.hid (R0.out.below hb2 HLT.out)
       replace HLT := Lib.hid (Nat.lt_of_lt_of_le HLT.out hb2.size)
       clear hb2)
    | (go_at_call 155
       with_reducible refine (HO _).mono ?_
       rintro e w2 ⟨rfl, hb2⟩
       replace HB0 := Lib.hid (HB0.out.trans (hb2.mono HB0.out.size))
       replace B0 := Lib.hid (B0.out.below hb2 (Nat.lt_of_succ_lt HLT.out))
       replace R0 := Lib.hid (R0.out.below hb2 HLT.out)
       replace HLT := Lib.hid (Nat.lt_of_lt_of_le HLT.out hb2.size)
       clear hb2)
    | (go_at_call 153
       with_reducible refine (need_yes _ _ _ _).mono ?_
       rintro e w2 ⟨rfl, hb2⟩
       replace HB0 := Lib.hid (HB0.out.trans (hb2.mono HB0.out.size))
       replace B0 := Lib.hid (B0.out.below hb2 (Nat.lt_of_succ_lt HLT.out))
       replace R0 := Lib.hid (R0.out.below hb2 HLT.out)
       replace HLT := Lib.hid (Nat.lt_of_lt_of_le HLT.out hb2.size)
       clear hb2))
  go_wp2_with fail
  replace B0 := Lib.hid (B0.out.drew)
  replace R0 := Lib.hid (R0.out.drew)
  replace HB0 := Lib.hid (HB0.out.drew)
  replace HLT := Lib.hid (show w.heap.size + 1 < w2.drew.heap.size from HLT.out)
  refine wp_region_held_drew (S := (fun w' => w'.cell? ⟨w.heap.size, 0, none⟩ = some (.int .i64 size) ∧ w'.cell? ⟨w.heap.size, 1, none⟩ = some (.string s))) (by kernel_rfl) ⟨B0.out.cell 0, B0.out.cell 1⟩ (fun hHeld => ?_)
  refine tkA (i := 0) ?_
  try simp only [tkP]
  refine tkA (i := 1) ?_
  try simp only [tkP]
  refine wpAnyH_ready (rs := [2]) (by kernel_rfl) (by simp) ?_
  refine tkC (fun K hK => ?_)
  go_simp
  refine (HN2 _).mono ?_
  rintro e w5 ⟨rfl, hb2⟩
  replace HB0 := Lib.hid (HB0.out.trans (hb2.mono HB0.out.size))
  replace B0 := Lib.hid (B0.out.below hb2 (Nat.lt_of_succ_lt HLT.out))
  replace R0 := Lib.hid (R0.out.below hb2 HLT.out)
  replace HLT := Lib.hid (Nat.lt_of_lt_of_le HLT.out hb2.size)
  clear hb2
  refine hK.out _ _ (⟨B0.out.cell 0, B0.out.cell 1⟩) (fun hHeld => ?_)
  clear hK K
  try simp only [tkP]
  refine tkA (i := 3) ?_
  try simp only [tkP]
  refine wpAnyH_ready (rs := [4]) (by kernel_rfl) (by simp) ?_
  refine tkC (fun K hK => ?_)
  go_simp
  refine (need_no _ _ _ _).mono ?_
  rintro e w9 ⟨rfl, hb9⟩
  exact ⟨rfl, rfl, HB0.out.trans (hb9.mono HB0.out.size)⟩
end Go.Proofs.YtmmjckokjmpfpaaGreat

