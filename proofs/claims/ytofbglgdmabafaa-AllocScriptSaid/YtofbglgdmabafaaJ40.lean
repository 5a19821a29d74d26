/-
  The reference's allocation of layer 14 in memory (Rf), and contracts of its calls: each with its conditions in its own statement.
-/
import Derived.Test.YtofbglgdmabafaaJ38
import Derived.Test.YtofbglgdmabafaaJ39
import Derived.Deep.RegionHeld3
namespace Go.Proofs.Ytofbglgdmabafaa
open Go.RowKit
open Go.Lib hiding intOf
set_option linter.unusedVariables false
set_option linter.unusedSimpArgs false
attribute [local go_sem ↓] Go.wp_at_zero Go.wp_at_succ

/-- A row of numbers that lies in F, apart from block o. -/
def RowF (w : World) (F : Nat → Prop) (o : Nat) (A : Option Addr) (n c : Nat) (l : List Nat) : Prop := Reads w w.heap.size 1 A n (ucells l) ∧ (∀ ad, A = some ad → F ad.block ∧ ad.block ≠ o) ∧ n ≤ c ∧ c ≤ maxLen
structure RfAt (w : World) (F : Nat → Prop) (o : Nat) (S : AlS) (A1 : Option Addr) (n1 c1 : Nat) (A2 : Option Addr) (n2 c2 : Nat) (A3 : Option Addr) (n3 c3 : Nat) : Prop where
  blk : Blk w o 44 #[.slice A1 n1 c1, .slice A2 n2 c2, .slice A3 n3 c3, .int .u32 S.count, .int .u32 S.most]
  r1 : RowF w F o A1 n1 c1 S.now
  r2 : RowF w F o A2 n2 c2 S.took
  r3 : RowF w F o A3 n3 c3 S.gave
  ok : S.ok
  Fo : F o
  Flt : ∀ k, F k → k < w.heap.size
def Rf (w : World) (F : Nat → Prop) (o : Nat) (S : AlS) : Prop := ∃ A1 n1 c1 A2 n2 c2 A3 n3 c3, RfAt w F o S A1 n1 c1 A2 n2 c2 A3 n3 c3
section
variable {w w' : World} {F G : Nat → Prop} {o : Nat} {S : AlS} {A1 A2 A3 : Option Addr} {n1 c1 n2 c2 n3 c3 : Nat}
theorem RowF.kept {A : Option Addr} {n c : Nat} {l : List Nat} (h : RowF w F o A n c l) (hk : Kept G w w') (hn : ∀ k, F k → ¬ G k) : RowF w' F o A n c l :=
  ⟨(hk.reads h.1 (Nat.le_refl _) fun a e => hn _ (h.2.1 a e).1).more hk.size, h.2⟩
theorem RowF.wide {A : Option Addr} {n c : Nat} {l : List Nat} (h : RowF w F o A n c l) (hG : ∀ k, F k → G k) : RowF w G o A n c l := ⟨h.1, fun a e => ⟨hG _ (h.2.1 a e).1, (h.2.1 a e).2⟩, h.2.2⟩
theorem RowF.nil : RowF w F o none 0 0 [] := ⟨Reads.none_, fun a e => (by cases e), Nat.le_refl _, by simp [maxLen]⟩
theorem RfAt.kept (h : RfAt w F o S A1 n1 c1 A2 n2 c2 A3 n3 c3) (hk : Kept G w w') (hn : ∀ k, F k → ¬ G k) : RfAt w' F o S A1 n1 c1 A2 n2 c2 A3 n3 c3 :=
  { h with
    blk := hk.blk h.blk (hn _ h.Fo)
    r1 := h.r1.kept hk hn
    r2 := h.r2.kept hk hn
    r3 := h.r3.kept hk hn
    Flt := fun k hk' => Nat.lt_of_lt_of_le (h.Flt k hk') hk.size }
theorem Rf.kept (h : Rf w F o S) (hk : Kept G w w') (hn : ∀ k, F k → ¬ G k) : Rf w' F o S := by
  obtain ⟨A1, n1, c1, A2, n2, c2, A3, n3, c3, h⟩ := h
  exact ⟨A1, n1, c1, A2, n2, c2, A3, n3, c3, h.kept hk hn⟩
theorem Rf.lt (h : Rf w F o S) : ∀ k, F k → k < w.heap.size := by obtain ⟨A1, n1, c1, A2, n2, c2, A3, n3, c3, h⟩ := h; exact h.Flt
theorem Rf.ok (h : Rf w F o S) : S.ok := by obtain ⟨A1, n1, c1, A2, n2, c2, A3, n3, c3, h⟩ := h; exact h.ok
theorem Rf.new (h : Rf w F o S) (hb : Below w.heap.size w w') : Rf w' F o S :=
  h.kept (G := fun k => w.heap.size ≤ k) (Kept.of_below hb fun k h1 _ => h1) fun k hk => by have := h.lt k hk; omega
theorem RfAt.new (h : RfAt w F o S A1 n1 c1 A2 n2 c2 A3 n3 c3) (hb : Below w.heap.size w w') : RfAt w' F o S A1 n1 c1 A2 n2 c2 A3 n3 c3 :=
  h.kept (G := fun k => w.heap.size ≤ k) (Kept.of_below hb fun k h1 _ => h1) fun k hk => by have := h.Flt k hk; omega
theorem rf_cells (h : RfAt w F o S A1 n1 c1 A2 n2 c2 A3 n3 c3) : w.cell? ⟨o, 0, none⟩ = some (.slice A1 n1 c1) ∧ w.cell? ⟨o, 1, none⟩ = some (.slice A2 n2 c2) ∧ w.cell? ⟨o, 2, none⟩ = some (.slice A3 n3 c3) ∧ w.cell? ⟨o, 3, none⟩ = some (.int .u32 S.count) ∧ w.cell? ⟨o, 4, none⟩ = some (.int .u32 S.most) :=
  ⟨h.blk.cell 0, h.blk.cell 1, h.blk.cell 2, h.blk.cell 3, h.blk.cell 4⟩
theorem RowF.set {A : Option Addr} {n c : Nat} {l : List Nat} (h : RowF w F o A n c l) (i : Nat) (v : Value) : RowF (w.setCell ⟨o, i, none⟩ v) F o A n c l :=
  ⟨((Kept.setCell (F := fun k => k = o) (Kept.refl _ w) (p := ⟨o, i, none⟩) (.inl rfl) v).reads h.1 (Nat.le_refl _) fun a e => (h.2.1 a e).2).more (by simp [World.setCell]), h.2⟩
/-- A new row, in the wider footprint. -/
theorem RowF.made {A : Option Addr} {n c : Nat} {l : List Nat} (ho : w'.ownsRow w.heap.size 27 1 (.slice A n c) n (ucells l)) (hb : Below w.heap.size w w') (hol : o < w.heap.size) : RowF w' (GrowF F w w') o A n c l := by
  obtain ⟨A', c', e, h1, h2, _⟩ := own_form ho
  injection e with e1 _ e2
  subst e1
  subst e2
  refine ⟨Reads.of_own ho, fun ad e => ?_, h1, h2⟩
  subst e
  rcases ho.2 with ⟨hv, _⟩ | ⟨gg, cap, cur, hv, _⟩
  · cases hv
  · injection hv with hA
    injection hA with hA
    subst hA
    have := ho.lt gg rfl
    exact ⟨.inr this, by show gg ≠ o; omega⟩
end
section
variable {w : World} {F : Nat → Prop} {o : Nat} {S : AlS}
set_option maxRecDepth 100000 in
theorem fleft_any (h : Rf w F o S) :
    Calls Try.prog 25 #[.pointer (some ⟨o, 0, none⟩)] w fun e w' => e = .returned (.int .i64 S.left) ∧ Below w.heap.size w w' := by
  have hok := h.ok
  obtain ⟨A1, n1, c1, A2, n2, c2, A3, n3, c3, h⟩ := h
  obtain ⟨k0, _, _, k3, k4⟩ := rf_cells h
  have hl := ulen h.r1.1
  have hsm := hok.small
  have hcm := hok.cm
  have hmm := hok.mm
  have w1 : IntKind.u32.wrap ((S.most : Int) - (S.count : Int)) = ((S.most - S.count : Nat) : Int) := by rw [IntKind.wrap_u32]; omega
  have w2 : IntKind.i64.wrap (((S.most - S.count : Nat) : Int)) = ((S.most - S.count : Nat) : Int) := by rw [IntKind.wrap_i64]; omega
  have w3 : IntKind.i64.wrap ((n1 : Int) + ((S.most - S.count : Nat) : Int)) = (n1 : Int) + ((S.most - S.count : Nat) : Int) := by rw [IntKind.wrap_i64]; omega
  have E := Lib.hid (show (n1 : Int) + ((S.most - S.count : Nat) : Int) = ((S.left : Nat) : Int) from by unfold AlS.left; omega)
  clear hsm hl hcm hmm hok h
  go_enter Try.func25, Try.ntmps25
  go_wp2_with fail
  go_region
  all_goals (go_wp2_with fail; go_ret)
  all_goals exact ⟨by rw [E.out]; rfl, (Below.refl _ _).drew⟩
theorem fmine_any (h : Rf w F o S) (x : Nat) :
    Calls Try.prog 26 #[.pointer (some ⟨o, 0, none⟩), .int .u32 x] w fun e w' => e = .returned (.bool (inU S.took x)) ∧ ∃ q, w' = w.drewN q := by
  have hok := h.ok
  obtain ⟨A1, n1, c1, A2, n2, c2, A3, n3, c3, h⟩ := h
  obtain ⟨_, k1, _, _, _⟩ := rf_cells h
  have hl := ulen h.r2.1
  have hsm := hok.small
  have HP := Lib.hid (rplace_any c2 x h.r2.1 hok.r2 (by omega))
  clear hsm hl hok h
  go_enter Try.func26, Try.ntmps26
  go_wp2_with (go_at_call 46; refine HP.out.mono ?_; rintro e w2 ⟨rfl, q, rfl⟩)
  go_ret
  exact ⟨rfl, q, rfl⟩
set_option maxRecDepth 100000 in
theorem ffree_any (h : Rf w F o S) :
    Calls Try.prog 27 #[.pointer (some ⟨o, 0, none⟩)] w (RowPost S.frees w) := by
  obtain ⟨i0, hi0, hz0, hz1, hz2⟩ := info_parts infoU32b
  have hok := h.ok
  obtain ⟨A1, n1, c1, A2, n2, c2, A3, n3, c3, h⟩ := h
  have HA := Lib.hid h
  obtain ⟨k0, _, k2, _, _⟩ := rf_cells (h.new ((Below.refl _ _).alloc (Nat.le_refl _) (.cells #[] 27)))
  have hl1 := ulen h.r1.1
  have hl3 := ulen h.r3.1
  have hsm := hok.small
  have HR1 := Lib.hid h.r1.1
  have HR3 := Lib.hid h.r3.1
  have HOK := Lib.hid hok
  have HL1 := Lib.hid hl1
  have HL3 := Lib.hid hl3
  have hn1 : n1 ≤ 1048576 := by omega
  have hn3 : n3 ≤ 1048576 := by omega
  have HO := Lib.hid (World.ownsRow_made (e := 27) (size := 1) w #[] 0 (Nat.le_refl w.heap.size) (by simp [maxLen]) rfl)
  have B1 := Lib.hid ((Below.refl w.heap.size w).alloc (Nat.le_refl _) (.cells #[] 27))
  clear hl1 hl3 hsm hok h
  go_enter Try.func27, Try.ntmps27
  go_wp2_with (at_builtin; refine wpList_append_any _ rfl (.tmp 5) (.tmp 9) _ rfl w.heap.size 27 i0 _ 1 4 Try.underlying28 hi0 hz0 hz1 hz2 rfl (by omega) _ 0 [] rfl HO.out w.heap.size A1 n1 c1 _ rfl (HR1.out.below B1.out) (ucells_one _) (by unfold maxLen; omega) (by omega) B1.out.size ?_; intro v2 w2 hown2 hg2 hat2)
  have B2 := Lib.hid (B1.out.grown hg2 B1.out.size (by rintro g ⟨⟩; exact Nat.le_refl _))
  simp only [Nat.zero_add, List.nil_append] at hown2
  obtain ⟨A2', c2', rfl, _⟩ := own_form hown2
  have HO2 : Hid (w2.ownsRow w.heap.size 27 1 (.slice A2' n1 c2') n1 (ucells ((S.gave.take 0).foldl withU S.now))) := Lib.hid hown2
  clear hown2 hg2 hat2 k0 k2
  go_loopw [3, 4] (fun s3 s4 wr => ∃ (k : Nat) (A : Option Addr) (n c : Nat), k ≤ n3 ∧ s4 = .int .i64 k ∧ s3 = .slice A n c ∧ Hid (wr.ownsRow w.heap.size 27 1 (.slice A n c) n (ucells ((S.gave.take k).foldl withU S.now))) ∧ Hid (Below w.heap.size w wr)) (fun _ s4 _ => n3 - (intOf s4).toNat)
  case atStart => exact ⟨0, A2', n1, c2', Nat.zero_le _, rfl, rfl, HO2, B2⟩
  case round =>
    obtain ⟨k, A, n, c, hk, rfl, rfl, HOW, HW⟩ := hrel
    obtain ⟨_, _, k2, _, _⟩ := rf_cells (HA.out.new HW.out)
    by_cases hlt : k < n3
    · obtain ⟨ad, hA, _, hc⟩ := ureads_at (HR3.out.below HW.out) hlt
      subst hA
      have hkl : k < S.gave.length := by rw [HL3.out]; exact hlt
      have E : Hid ((S.gave.take (k + 1)).foldl withU S.now = withU ((S.gave.take k).foldl withU S.now) (nthU S.gave k)) := Lib.hid (by
        rw [List.take_succ_eq_append_getElem hkl, List.foldl_append]
        unfold nthU
        rw [List.getElem?_eq_getElem hkl]
        rfl)
      have hf := fold_with (S.gave.take k) S.now HOK.out.r1 (HOK.out.r3.sublist (List.take_sublist _ _)) (fun m hm hg => HOK.out.d13 m hm (List.mem_of_mem_take hg))
      have hnl := own_len HOW.out
      have HWI := Lib.hid (rwith_any (w := wr) (c := c) (nthU S.gave k) (Reads.of_own HOW.out) hf.1 (by rw [← hnl, hf.2.2, List.length_take]; have := HL1.out; have := HL3.out; omega) (by obtain ⟨_, _, e, h1, _⟩ := own_form HOW.out; injection e with _ _ e3; subst e3; exact h1))
      generalize nthU S.gave k = v at hc HWI E
      clear hf hnl
      go_wp2_with (go_at_call 45; refine HWI.out.mono ?_; rintro e w5 ⟨A5, n5, c5, rfl, ho5, hb5⟩; have HO5 := Lib.hid ho5; have HB5 := Lib.hid hb5; clear ho5 hb5)
      go_roundw
      case rel => exact ⟨k + 1, A5, n5, c5, by omega, by go_num, rfl, Lib.hid (by rw [E.out]; exact own_low HO5.out HW.out.size), Lib.hid (HW.out.trans (HB5.out.mono HW.out.size))⟩
      case measure => simp [intOf]; omega
    · obtain rfl : k = n3 := by omega
      go_wp2_with fail
      go_ret
      refine ⟨A, n, c, rfl, ?_, HW.out⟩
      have := HOW.out
      rw [List.take_of_length_le (by rw [HL3.out]; exact Nat.le_refl _)] at this
      exact this
end
end Go.Proofs.Ytofbglgdmabafaa

