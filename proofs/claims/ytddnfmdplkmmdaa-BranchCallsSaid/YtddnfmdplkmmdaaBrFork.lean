/-
  Contract of package branch's reader: a fork; or the panic.
-/
import Derived.Test.YtddnfmdplkmmdaaBrRead
import Derived.Test.YtddnfmdplkmmdaaRef7Of
namespace Go.Proofs.Ytddnfmdplkmmdaa
open Go.RowKit
open Go.Lib hiding intOf
set_option linter.unusedVariables false
set_option linter.unusedSimpArgs false
attribute [local go_sem ↓] Go.wp_at_zero Go.wp_at_succ

theorem took_some (t : ByteArray) : ∃ v x t', tookN 4 t v x t' := by
  by_cases h : 4 ≤ t.size
  · exact ⟨_, _, _, .inl ⟨h, rfl, rfl, rfl⟩⟩
  · exact ⟨0, 7, t, .inr ⟨by omega, rfl, rfl⟩⟩
theorem step_dead3 {t t1 t2 nm : ByteArray} {v : Nat} (h1 : tookN 1 t v 0 t1) (h2 : tookB v t1 nm 0 t2) (h3 : t2.size < 4) : stepF t.data.toList = none := by
  have h := step7_is h1 h2 (show tookN 4 t2 0 7 t2 from .inr ⟨h3, rfl, rfl⟩)
  rcases hs : stepF t.data.toList with _ | ⟨b, r⟩
  · rfl
  · rw [hs] at h
    exact absurd h.2.2.1 (by decide)
theorem step_dead2 {t t1 : ByteArray} {v : Nat} (h1 : tookN 1 t v 0 t1) (h2 : t1.size < v) : stepF t.data.toList = none := by
  obtain ⟨v3, x3, t3, h3⟩ := took_some t1
  have h := step7_is h1 (show tookB v t1 ByteArray.empty 7 t1 from .inr ⟨h2, rfl, rfl⟩) h3
  rcases hs : stepF t.data.toList with _ | ⟨b, r⟩
  · rfl
  · rw [hs] at h
    exact absurd h.2.1 (by decide)
theorem step_dead1 {t : ByteArray} (h1 : t.size < 1) : stepF t.data.toList = none := by
  have h0 : t.data.toList = [] := List.eq_nil_of_length_eq_zero (by rw [size_list]; omega)
  rw [h0]
  rfl
def forkPost (o : Option (Fk × List UInt8)) (g : Nat) (e : Ending) (w' : World) : Prop := match o with
  | none => DiesB e
  | some (b, r) => ∃ s' : ByteArray, e = .returned (.agg #[.string b.nm, .int .u32 b.rt]) ∧ IsRd w' g s' ∧ s'.data.toList = r
set_option maxRecDepth 100000 in
set_option maxHeartbeats 6400000 in
theorem bfork_tot {w : World} {g : Nat} {t : ByteArray} (h : IsRd w g t) (hs : t.size ≤ 100000) :
    Calls Try.prog 46 #[.agg #[.pointer (some ⟨g, 0, none⟩)]] w fun e w' => w.grownBy w' (some g) ∧ forkPost (stepF t.data.toList) g e w' := by
  obtain ⟨i0, hi0, hz0, hz1, hz2⟩ := info_parts infoFk
  obtain ⟨w0, hw0⟩ : ∃ x, x = (w.alloc (.cells #[.pointer (some ⟨g, 0, none⟩)] 60)).alloc (.cells #[.string ⟨#[]⟩, .int .u32 0] 35) := ⟨_, rfl⟩
  have Bx := Lib.hid (show Blk w0 w.heap.size 60 #[.pointer (some ⟨g, 0, none⟩)] by rw [hw0]; exact (Blk.new _ _ _).alloc _)
  have R0 := Lib.hid (show Blk w0 (w.heap.size + 1) 35 #[.string ⟨#[]⟩, .int .u32 0] by
    rw [hw0]
    have := Blk.new (w.alloc (.cells #[.pointer (some ⟨g, 0, none⟩)] 60)) 35 #[.string ⟨#[]⟩, .int .u32 0]
    simpa using this)
  have HF := Lib.hid (show IsRd w0 g t by rw [hw0]; exact Blk.alloc (Blk.alloc h _) _)
  have HG := Lib.hid (show w.grownBy w0 (some g) by rw [hw0]; exact grown_trans (World.grownBy_alloc _ _ _) (World.grownBy_alloc _ _ _))
  have hgl := Lib.hid (Blk.lt h)
  have HS := Lib.hid hs
  clear h hs
  go_enter Try.func46, Try.ntmps46
  go_wp2_with fail
  rw [← hw0]
  clear hw0
  replace Bx := Lib.hid (Bx.out.drew)
  replace R0 := Lib.hid (R0.out.drew)
  replace HG := Lib.hid (grown_trans HG.out (grown_drew _ _))
  replace HF := Lib.hid (show IsRd w0.drew g t from Blk.drew HF.out)
  refine wp_region_held_drew (S := (fun w' => w'.cell? ⟨w.heap.size, 0, none⟩ = some (.pointer (some ⟨g, 0, none⟩)))) (by kernel_rfl) (Bx.out.cell 0) (fun hHeld => ?_)
  refine wpAnyH_takeL (i := 0) (v := ?_) rfl (by kernel_rfl) (by kernel_rfl) (by kernel_rfl) (fun _ _ _ h => h) (Or.inl ⟨by rfl, ?_⟩) (by first | trivial | assumption) ?_
  rotate_left
  · intro wz hSz; (try dsimp only at hSz); go_simp; (try with_reducible rfl)
  try simp only [Act.put, List.setIfInBounds_toArray, List.set_cons_zero, List.set_cons_succ]
  refine wpAnyH_takeL (i := 1) (v := ?_) rfl (by kernel_rfl) (by kernel_rfl) (by kernel_rfl) (fun _ _ _ h => h) (Or.inl ⟨by rfl, ?_⟩) (by first | trivial | assumption) ?_
  rotate_left
  · intro wz hSz; (try dsimp only at hSz); go_simp; (try with_reducible rfl)
  try simp only [Act.put, List.setIfInBounds_toArray, List.set_cons_zero, List.set_cons_succ]
  refine wpAnyH_ready (rs := [2]) (by kernel_rfl) (by simp) ?_
  refine AllReadyH.consL rfl (fun K hK => ?_) AllReadyH.nil
  go_simp
  refine (bnumr_tot HF.out 1 (by decide) (by decide)).mono ?_
  rintro e w2 ⟨hg, ⟨v1, t1, rfl, hf, hv, ht⟩ | ⟨rfl, hk⟩⟩
  rotate_left
  · have hE := step_dead1 hk
    refine ⟨rfl, grown_trans HG.out hg, ?_⟩
    rw [hE]
    exact rfl
  replace Bx := Lib.hid (Blk.grown Bx.out hg (by intro h; injection h with h; have := hgl.out; omega))
  replace R0 := Lib.hid (Blk.grown R0.out hg (by intro h; injection h with h; have := hgl.out; omega))
  replace HG := Lib.hid (grown_trans HG.out hg)
  replace HF := Lib.hid hf
  have T1 := Lib.hid ht
  have HV := Lib.hid (show v1 < 256 from hv)
  clear hg hf hv ht
  refine hK.out _ _ (Bx.out.cell 0) (fun hHeld => ?_)
  clear hK K
  try simp only [Act.put, List.setIfInBounds_toArray, List.set_cons_zero, List.set_cons_succ]
  have hwv : IntKind.i64.wrap (v1 : Int) = (v1 : Int) := by have := HV.out; rw [IntKind.wrap_i64]; omega
  refine wpAnyH_takeL (i := 3) (v := .int .i64 (v1 : Int)) rfl (by kernel_rfl) (by kernel_rfl) (by kernel_rfl) (fun _ _ _ h => h) (Or.inl ⟨by rfl, ?_⟩) (by first | trivial | assumption) ?_
  · intro wz hSz; (try dsimp only at hSz); go_simp; (try with_reducible rfl)
  try simp only [Act.put, List.setIfInBounds_toArray, List.set_cons_zero, List.set_cons_succ]
  clear hwv
  refine wpAnyH_ready (rs := [4]) (by kernel_rfl) (by simp) ?_
  refine AllReadyH.consL rfl (fun K hK => ?_) AllReadyH.nil
  go_simp
  have hs1 : t1.size ≤ 100000 := by
    have h1 := HS.out
    rcases T1.out with ⟨_, _, _, h2⟩ | ⟨_, _, h2⟩
    · rw [h2, ByteArray.size_extract]; omega
    · rw [h2]; exact h1
  refine (btext_tot HF.out v1 hs1).mono ?_
  rintro e w3 ⟨hg, ⟨nm, t2, rfl, hf, ht⟩ | ⟨rfl, hk⟩⟩
  rotate_left
  · have hE := step_dead2 T1.out hk
    refine ⟨rfl, grown_trans HG.out hg, ?_⟩
    rw [hE]
    exact rfl
  replace Bx := Lib.hid (Blk.grown Bx.out hg (by intro h; injection h with h; have := hgl.out; omega))
  replace R0 := Lib.hid (Blk.grown R0.out hg (by intro h; injection h with h; have := hgl.out; omega))
  replace HG := Lib.hid (grown_trans HG.out hg)
  replace HF := Lib.hid hf
  have T2 := Lib.hid ht
  clear hg hf ht
  refine hK.out _ _ (Bx.out.cell 0) (fun hHeld => ?_)
  clear hK K
  try simp only [Act.put, List.setIfInBounds_toArray, List.set_cons_zero, List.set_cons_succ]
  refine wpAnyH_takeL (i := 5) (v := ?_) rfl (by kernel_rfl) (by kernel_rfl) (by kernel_rfl) (fun _ _ _ h => h) (Or.inl ⟨by rfl, ?_⟩) (by first | trivial | assumption) ?_
  rotate_left
  · intro wz hSz; (try dsimp only at hSz); go_simp; (try with_reducible rfl)
  try simp only [Act.put, List.setIfInBounds_toArray, List.set_cons_zero, List.set_cons_succ]
  refine wpAnyH_done (by kernel_rfl) ?_ _
  clear hHeld
  have b0 := Bx.out.cell 0
  simp at b0
  go_wp2_with fail
  refine (bnumr_tot HF.out 4 (by decide) (by decide)).mono ?_
  rintro e w4 ⟨hg, ⟨v3, t3, rfl, hf, hv, ht⟩ | ⟨rfl, hk⟩⟩
  rotate_left
  · have hE := step_dead3 T1.out T2.out hk
    refine ⟨rfl, grown_trans HG.out hg, ?_⟩
    rw [hE]
    exact rfl
  have hv3 : v3 < 4294967296 := hv
  have hw3 : IntKind.u32.wrap (v3 : Int) = (v3 : Int) := by rw [IntKind.wrap_u32]; omega
  replace R0 := Lib.hid (Blk.grown R0.out hg (by intro h; injection h with h; have := hgl.out; omega))
  replace HG := Lib.hid (grown_trans HG.out hg)
  replace HF := Lib.hid hf
  have hst := step7_is T1.out T2.out ht
  obtain ⟨r', hsf, hr'⟩ : ∃ r', stepF t.data.toList = some (⟨nm, v3⟩, r') ∧ t3.data.toList = r' := by
    rcases hq : stepF t.data.toList with _ | ⟨b, r⟩
    · rw [hq] at hst
      simp at hst
    · rw [hq] at hst
      exact ⟨r, by rw [hst.2.2.2.1], hst.2.2.2.2⟩
  have HE := Lib.hid hsf
  have HR := Lib.hid hr'
  clear hg hf hv ht hst hsf hr' T1 T2 b0 Bx
  have k0 := R0.out.cell 0
  have k1 := R0.out.cell 1
  have f0 := R0.out.frozen 0
  have f1 := R0.out.frozen 1
  simp at k0 k1
  go_wp2_with fail
  rw [HE.out]
  refine bodyPost_ret (results_cell_row rfl _ _ (w.heap.size + 1) 35 #[.string nm, .int .u32 v3] (0, 0) _ rfl ((R0.out.set_ 0 _).set_ 1 _) Try.underlying35 rfl (by rw [hi0]; simpa using hz1)) rfl ?_
  refine ⟨grown_cell (grown_cell HG.out (Nat.le_succ _) _) (Nat.le_succ _) _, t3, rfl, ?_, HR.out⟩
  have hne : g ≠ w.heap.size + 1 := by have := hgl.out; omega
  exact Blk.far (Blk.far HF.out hne _) hne _
end Go.Proofs.Ytddnfmdplkmmdaa
