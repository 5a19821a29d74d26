/-
  Contracts of the reference's New, Take and Give of layer 14, each with its conditions in its own statement.
-/
import Derived.Test.YtofbglgdmabafaaJ40
import Derived.Test.YtofbglgdmabafaaJ8
namespace Go.Proofs.Ytofbglgdmabafaa
open Go.RowKit
open Go.Lib hiding intOf
set_option linter.unusedVariables false
set_option linter.unusedSimpArgs false
attribute [local go_sem ↓] Go.wp_at_zero Go.wp_at_succ

section
variable {w : World} {F : Nat → Prop} {o : Nat} {S : AlS}
theorem grow_flt {w w' : World} {F : Nat → Prop} (h : ∀ k, F k → k < w.heap.size) (hs : w.heap.size ≤ w'.heap.size) : ∀ k, GrowF F w w' k → k < w'.heap.size := fun k hk => by
  rcases hk with hk | ⟨_, hk⟩
  · have := h k hk; omega
  · exact hk
set_option maxRecDepth 100000 in
set_option maxHeartbeats 1600000 in
theorem ftake_any (h : Rf w F o S) :
    Calls Try.prog 23 #[.pointer (some ⟨o, 0, none⟩)] w fun e w' => e = .returned (.tuple #[.int .u32 S.takes.1, .int .i64 S.takes.2.1]) ∧ Rf w' (GrowF F w w') o S.takes.2.2 ∧ Kept F w w' := by
  have hok := h.ok
  have hok2 := AlS.takes_ok hok
  have hsm := hok.small
  obtain ⟨A1, n1, c1, A2, n2, c2, A3, n3, c3, h⟩ := h
  obtain ⟨k0, k1, k2, k3, k4⟩ := rf_cells h
  have hl1 := ulen h.r1.1
  have hl2 := ulen h.r2.1
  have hol := h.Flt _ h.Fo
  rcases hn : S.now with _ | ⟨x, r⟩
  · rw [hn] at hl1
    obtain rfl : 0 = n1 := hl1
    rcases Nat.lt_or_ge S.count S.most with hc | hc
    · have e : S.takes = (S.count, 0, { S with took := withU S.took S.count, count := S.count + 1 }) := by unfold AlS.takes; rw [hn]; simp only; rw [if_neg (by omega)]
      rw [e] at hok2 ⊢
      have hc1 : ¬ (S.most : Int) ≤ (S.count : Int) := by omega
      have hc2 : (S.count : Int) < (S.most : Int) := by omega
      have wc : IntKind.u32.wrap ((S.count : Int) + 1) = (S.count : Int) + 1 := by rw [IntKind.wrap_u32]; omega
      obtain ⟨W1, hW1⟩ : ∃ x, x = w.drew.setCell ⟨o, 3, none⟩ (.int .u32 ((S.count : Int) + 1)) := ⟨_, rfl⟩
      have hb1 : Blk W1 o 44 #[.slice A1 0 c1, .slice A2 n2 c2, .slice A3 n3 c3, .int .u32 ((S.count : Int) + 1), .int .u32 S.most] := by rw [hW1]; exact h.blk.drew.set_ 3 _
      have f3 := h.blk.frozen 3
      have m1 := hb1.cell 1
      have r21 : RowF W1 F o A2 n2 c2 S.took := by rw [hW1]; exact RowF.set (w := w.drew) h.r2 3 _
      have r11 : RowF W1 F o A1 0 c1 S.now := by rw [hW1]; exact RowF.set (w := w.drew) h.r1 3 _
      have r31 : RowF W1 F o A3 n3 c3 S.gave := by rw [hW1]; exact RowF.set (w := w.drew) h.r3 3 _
      have hs1 : W1.heap.size = w.heap.size := by rw [hW1]; simp [World.setCell]
      have HWI := Lib.hid (rwith_any (w := W1) (c := c2) S.count r21.1 hok.r2 (by omega) r21.2.2.1)
      have HK1 : Hid (Kept F w W1) := Lib.hid (by rw [hW1]; exact ((Kept.refl F w).drew).setCell (p := ⟨o, 3, none⟩) (.inl h.Fo) _)
      have HB1 := Lib.hid hb1
      have HR := Lib.hid (And.intro r11 (And.intro r21 r31))
      have HF := Lib.hid (And.intro h.Fo h.Flt)
      have HS1 := Lib.hid hs1
      have HOK2 := Lib.hid hok2
      simp at m1
      clear h hok hok2 hsm hl2 hn hc hb1 r21 r11 r31 hs1 e
      subst hW1
      go_enter Try.func23, Try.ntmps23
      go_wp2_with fail
      go_region
      all_goals
        go_wp2_with fail
        refine HWI.out.mono ?_
        rintro e w3 ⟨A', n', c', rfl, ho3, hbb3⟩
        have hb3 := HB1.out.below hbb3 (by rw [HS1.out]; exact hol)
        have f13 := hb3.frozen 1
        have p1 := hb3.cell 1
        simp at p1
        have HB3 := Lib.hid hb3
        have HO3 := Lib.hid ho3
        have HBB3 := Lib.hid hbb3
        clear hb3 ho3 hbb3
        go_wp2_with fail
        go_ret2
        have hk3 : Kept F w w3 := HK1.out.trans (Kept.of_new HBB3.out)
        have hsz := HBB3.out.size
        have hkw : ∀ {A n c l}, RowF (w.drew.setCell ⟨o, 3, none⟩ (.int .u32 ((S.count : Int) + 1))) F o A n c l → RowF (w3.setCell ⟨o, 1, none⟩ (.slice A' n' c')) (GrowF F w (w3.setCell ⟨o, 1, none⟩ (.slice A' n' c'))) o A n c l := fun hr =>
          ((hr.kept (G := fun k => w.heap.size ≤ k) (Kept.of_below HBB3.out fun k h1 _ => by rw [HS1.out] at h1; exact h1) (fun k hf => by have := HF.out.2 k hf; omega)).set 1 _).wide fun k hk => .inl hk
        refine ⟨rfl, ⟨A1, 0, c1, A', n', c', A3, n3, c3, ?_⟩, hk3.setCell (p := ⟨o, 1, none⟩) (.inl HF.out.1) _⟩
        refine ⟨by have := HB3.out.set_ 1 (.slice A' n' c'); rw [show ((S.count : Int) + 1) = ((S.count + 1 : Nat) : Int) by omega] at this; exact this, hkw HR.out.1, ?_, hkw HR.out.2.2, HOK2.out, .inl HF.out.1, ?_⟩
        · have h5 := (RowF.made (F := F) (o := o) HO3.out HBB3.out (by rw [HS1.out]; exact hol)).set 1 (.slice A' n' c')
          exact h5.wide fun k hk => by
            rcases hk with hk | ⟨h1, h2⟩
            · exact .inl hk
            · exact .inr ⟨by rw [HS1.out] at h1; exact h1, by simpa [World.setCell] using h2⟩
        · exact grow_flt HF.out.2 (by rw [HS1.out] at hsz; simpa [World.setCell] using hsz)
    · have e : S.takes = (0, 9, S) := by unfold AlS.takes; rw [hn]; simp only; rw [if_pos hc]
      rw [e]
      have hc1 : (S.most : Int) ≤ (S.count : Int) := by omega
      have H := Lib.hid h
      clear hok hok2 hsm hl2 hn hc e h
      go_enter Try.func23, Try.ntmps23
      go_wp2_with fail
      go_region
      all_goals
        go_wp2_with fail
        go_ret2
        have hb : Below w.heap.size w w.drew := (Below.refl _ _).drew
        exact ⟨rfl, ⟨A1, 0, c1, A2, n2, c2, A3, n3, c3, by have h5 := H.out.new hb; exact { h5 with r1 := h5.r1.wide fun k hk => .inl hk, r2 := h5.r2.wide fun k hk => .inl hk, r3 := h5.r3.wide fun k hk => .inl hk, Fo := .inl h5.Fo, Flt := grow_flt H.out.Flt hb.size }⟩, Kept.of_new hb⟩
  · have e : S.takes = (x, 0, { S with now := r, took := withU S.took x }) := by unfold AlS.takes; rw [hn]
    rw [e] at hok2 ⊢
    have hn1 : 0 < n1 := by rw [← hl1, hn]; simp
    obtain ⟨ad, hA, _, hca⟩ := ureads_at h.r1.1 (k := 0) hn1
    subst hA
    rw [add_zero_addr, hn, show nthU (x :: r) 0 = x from rfl] at hca
    have hn0 : (0 : Int) < (n1 : Int) := by omega
    have hxn : x ∈ S.now := by rw [hn]; simp
    have HWO := Lib.hid (rwithout_any (w := w) (c := c1) x h.r1.1 hok.r1 (by omega) h.r1.2.2.1 h.r1.2.2.2 hxn)
    have E1 : Hid (lessU1 S.now x = r) := Lib.hid (by rw [hn, lessU1_head])
    have HWI := Lib.hid (fun (W : World) (hr : Reads W W.heap.size 1 A2 n2 (ucells S.took)) => rwith_any (w := W) (c := c2) x hr hok.r2 (by omega) h.r2.2.2.1)
    have H := Lib.hid h
    have HOK2 := Lib.hid hok2
    clear h hok hok2 hsm hl2 hn e hxn hl1
    go_enter Try.func23, Try.ntmps23
    go_wp2_with (first
      | (go_at_call 44
         refine HWO.out.mono ?_
         rintro e w3 ⟨A', n', c', rfl, ho3, hbb3⟩
         rw [E1.out] at ho3
         have hb3 := H.out.blk.below hbb3 hol
         have f0 := hb3.frozen 0
         have p0 := hb3.cell 0
         simp at p0
         have hb4 := hb3.set_ 0 (.slice A' n' c')
         have p1 := hb4.cell 1
         simp at p1
         have HB4 := Lib.hid hb4
         have HO3 := Lib.hid ho3
         have HBB3 := Lib.hid hbb3
         clear hb3 ho3 hbb3 hb4)
      | (go_at_call 45
         refine (HWI.out _ (RowF.set (H.out.new HBB3.out).r2 0 _).1).mono ?_
         rintro e w5 ⟨A5, n5, c5, rfl, ho5, hbb5⟩
         have hb5 := HB4.out.below hbb5 (by have := HBB3.out.size; simp [World.setCell]; omega)
         have f1 := hb5.frozen 1
         have p5 := hb5.cell 1
         simp at p5
         have HB5 := Lib.hid hb5
         have HO5 := Lib.hid ho5
         have HBB5 := Lib.hid hbb5
         clear hb5 ho5 hbb5))
    go_ret2
    have hs3 := HBB3.out.size
    have hs5 := HBB5.out.size
    have hse : (w3.setCell ⟨o, 0, none⟩ (.slice A' n' c')).heap.size = w3.heap.size := by simp [World.setCell]
    rw [hse] at hs5
    have hk3 : Kept F w (w3.setCell ⟨o, 0, none⟩ (.slice A' n' c')) := (Kept.of_new HBB3.out).setCell (p := ⟨o, 0, none⟩) (.inl H.out.Fo) _
    have hk5 : Kept F w w5 := hk3.trans (Kept.of_new HBB5.out)
    have hsf : (w5.setCell ⟨o, 1, none⟩ (.slice A5 n5 c5)).heap.size = w5.heap.size := by simp [World.setCell]
    have r30 : RowF (w5.setCell ⟨o, 1, none⟩ (.slice A5 n5 c5)) (GrowF F w (w5.setCell ⟨o, 1, none⟩ (.slice A5 n5 c5))) o A3 n3 c3 S.gave :=
      ((((H.out.new HBB3.out).r3.set 0 (.slice A' n' c')).kept (G := fun k => w3.heap.size ≤ k) (Kept.of_below HBB5.out fun k h1 _ => by rw [hse] at h1; exact h1) (fun k hf => by have := H.out.Flt k hf; omega)).set 1 _).wide fun k hk => .inl hk
    have r10 : RowF (w5.setCell ⟨o, 1, none⟩ (.slice A5 n5 c5)) (GrowF F w (w5.setCell ⟨o, 1, none⟩ (.slice A5 n5 c5))) o A' n' c' r := by
      have h1 := (RowF.made (F := F) HO3.out HBB3.out hol).set 0 (.slice A' n' c')
      have h2 := (h1.kept (G := fun k => w3.heap.size ≤ k) (Kept.of_below HBB5.out fun k h1 _ => by rw [hse] at h1; exact h1) (fun k hf => by
        rcases hf with hf | ⟨_, hf⟩
        · have := H.out.Flt k hf; omega
        · omega)).set 1 (.slice A5 n5 c5)
      exact h2.wide fun k hk => by
        rcases hk with hk | ⟨h3, h4⟩
        · exact .inl hk
        · exact .inr ⟨h3, by rw [hsf]; omega⟩
    refine ⟨rfl, ⟨A', n', c', A5, n5, c5, A3, n3, c3, ⟨HB5.out.set_ 1 _, r10, ?_, r30, HOK2.out, .inl H.out.Fo, grow_flt H.out.Flt (by rw [hsf]; omega)⟩⟩, hk5.setCell (p := ⟨o, 1, none⟩) (.inl H.out.Fo) _⟩
    have h5 := (RowF.made (F := F) (o := o) HO5.out HBB5.out (by rw [hse]; omega)).set 1 (.slice A5 n5 c5)
    exact h5.wide fun k hk => by
      rcases hk with hk | ⟨h1, h2⟩
      · exact .inl hk
      · exact .inr ⟨by rw [hse] at h1; omega, by rw [hsf]; exact h2⟩
theorem RfAt.wide {A1 A2 A3 : Option Addr} {n1 c1 n2 c2 n3 c3 : Nat} {G : Nat → Prop} (h : RfAt w F o S A1 n1 c1 A2 n2 c2 A3 n3 c3) (hG : ∀ k, F k → G k) (hl : ∀ k, G k → k < w.heap.size) : RfAt w G o S A1 n1 c1 A2 n2 c2 A3 n3 c3 :=
  { h with r1 := h.r1.wide hG, r2 := h.r2.wide hG, r3 := h.r3.wide hG, Fo := hG _ h.Fo, Flt := hl }
/-- Nothing has changed but what is new. -/
theorem rf_same {w' : World} (h : Rf w F o S) (hb : Below w.heap.size w w') : Rf w' (GrowF F w w') o S ∧ Kept F w w' := by
  obtain ⟨A1, n1, c1, A2, n2, c2, A3, n3, c3, h⟩ := h
  exact ⟨⟨A1, n1, c1, A2, n2, c2, A3, n3, c3, (h.new hb).wide (fun k hk => .inl hk) (grow_flt h.Flt hb.size)⟩, Kept.of_new hb⟩
set_option maxRecDepth 100000 in
theorem fgive_arg (h : Rf w F o S) (n : Nat) (hn : n < 2 ∨ S.count ≤ n) :
    Calls Try.prog 24 #[.pointer (some ⟨o, 0, none⟩), .int .u32 n] w fun e w' => e = .returned (.int .i64 2) ∧ w = w' := by
  obtain ⟨A1, n1, c1, A2, n2, c2, A3, n3, c3, h⟩ := h
  obtain ⟨k0, k1, k2, k3, k4⟩ := rf_cells h
  by_cases h2 : n < 2
  · have h3 : (n : Int) < 2 := by omega
    clear h hn
    go_enter Try.func24, Try.ntmps24
    go_wp2_with fail
    go_ret
    exact ⟨rfl, rfl⟩
  · have h3 : ¬ (n : Int) < 2 := by omega
    have h4 : (S.count : Int) ≤ (n : Int) := by omega
    clear h hn
    go_enter Try.func24, Try.ntmps24
    go_wp2_with fail
    go_ret
    exact ⟨rfl, rfl⟩
set_option maxRecDepth 100000 in
theorem fgive_state (h : Rf w F o S) (n : Nat) (h2 : 2 ≤ n) (hcn : n < S.count) (hs : inU S.now n = true ∨ inU S.gave n = true) :
    Calls Try.prog 24 #[.pointer (some ⟨o, 0, none⟩), .int .u32 n] w fun e w' => e = .returned (.int .i64 8) ∧ Below w.heap.size w w' := by
  have hok := h.ok
  have hsm := hok.small
  obtain ⟨A1, n1, c1, A2, n2, c2, A3, n3, c3, h⟩ := h
  obtain ⟨k0, k1, k2, k3, k4⟩ := rf_cells h
  have hl1 := ulen h.r1.1
  have hl3 := ulen h.r3.1
  have h3 : ¬ (n : Int) < 2 := by omega
  have h4 : ¬ (S.count : Int) ≤ (n : Int) := by omega
  have HP1 := Lib.hid (rplace_any c1 n h.r1.1 hok.r1 (by omega))
  have HP3 := Lib.hid (fun q => rplace_any (w := w.drewN q) c3 n (h.r3.1.drewN q) hok.r3 (by omega))
  cases hnow : inU S.now n <;> cases hgv : inU S.gave n
  case false.false => rw [hnow, hgv] at hs; simp at hs
  all_goals
    rw [hnow] at HP1
    rw [hgv] at HP3
    clear hs hok hsm h hl1 hl3 h2 hcn hnow hgv
    go_enter Try.func24, Try.ntmps24
    go_wp2_with fail
    refine HP1.out.mono ?_
    rintro e w2 ⟨rfl, q, rfl⟩
    go_wp2_with fail
    refine (HP3.out q).mono ?_
    rintro e w3 ⟨rfl, q3, rfl⟩
    go_wp2_with fail
    go_ret
    exact ⟨rfl, below_drewN (Below.refl _ _) _⟩
set_option maxRecDepth 100000 in
set_option maxHeartbeats 1600000 in
theorem fgive_used (h : Rf w F o S) (n : Nat) (h2 : 2 ≤ n) (hcn : n < S.count) (hnow : inU S.now n = false) (hgave : inU S.gave n = false) (htook : inU S.took n = false) :
    Calls Try.prog 24 #[.pointer (some ⟨o, 0, none⟩), .int .u32 n] w fun e w' => e = .returned (.int .i64 0) ∧ Rf w' (GrowF F w w') o { S with gave := withU S.gave n } ∧ Kept F w w' := by
  have hok := h.ok
  have hsm := hok.small
  have hok2 : AlS.ok { S with gave := withU S.gave n } := by
    have h5 := AlS.gives_ok hok n
    have e : S.gives n = (0, { S with gave := withU S.gave n }) := by unfold AlS.gives; rw [if_neg (by omega), if_neg (by rw [hnow, hgave]; simp), if_neg (by rw [htook]; simp)]
    rw [e] at h5
    exact h5
  have hrf := h
  obtain ⟨A1, n1, c1, A2, n2, c2, A3, n3, c3, h⟩ := h
  obtain ⟨k0, k1, k2, k3, k4⟩ := rf_cells h
  have hl1 := ulen h.r1.1
  have hl3 := ulen h.r3.1
  have hol := h.Flt _ h.Fo
  have h3 : ¬ (n : Int) < 2 := by omega
  have h4 : ¬ (S.count : Int) ≤ (n : Int) := by omega
  have HP1 := Lib.hid (rplace_any c1 n h.r1.1 hok.r1 (by omega))
  have HP3 := Lib.hid (fun q => rplace_any (w := w.drewN q) c3 n (h.r3.1.drewN q) hok.r3 (by omega))
  have HMI := Lib.hid (fun q => fmine_any (w := w.drewN q) (hrf.new (below_drewN (Below.refl _ _) q)) n)
  have HWI := Lib.hid (fun q => rwith_any (w := w.drewN q) (c := c3) n (h.r3.1.drewN q) hok.r3 (by omega) h.r3.2.2.1)
  have HX := Lib.hid h
  have HOK2 := Lib.hid hok2
  rw [hnow] at HP1
  rw [hgave] at HP3
  rw [htook] at HMI
  clear hok hsm h hl1 hl3 h2 hcn hnow hgave htook hok2 hrf
  go_enter Try.func24, Try.ntmps24
  go_wp2_with fail
  refine HP1.out.mono ?_
  rintro e w2 ⟨rfl, q, rfl⟩
  go_wp2_with fail
  refine (HP3.out q).mono ?_
  rintro e w3 ⟨rfl, q3, rfl⟩
  rw [show (w.drewN q).drewN q3 = w.drewN (q + q3) from World.drewN_drewN _ _ _]
  go_wp2_with fail
  refine (HMI.out _).mono ?_
  rintro e w4 ⟨rfl, q4, rfl⟩
  rw [show (w.drewN (q + q3)).drewN q4 = w.drewN (q + q3 + q4) from World.drewN_drewN _ _ _]
  go_wp2_with fail
  refine (HWI.out _).mono ?_
  rintro e w5 ⟨A5, n5, c5, rfl, ho5, hbb5⟩
  generalize hqq : q + q3 + q4 = qq at *
  clear hqq HP1 HP3 HMI HWI
  have hbw : Below w.heap.size w w5 := (below_drewN (Below.refl _ _) qq).trans hbb5
  have ho5' : w5.ownsRow w.heap.size 27 1 (.slice A5 n5 c5) n5 (ucells (withU S.gave n)) := ho5
  have hb5 := HX.out.blk.below hbw hol
  have f2 := hb5.frozen 2
  have p2 := hb5.cell 2
  simp at p2
  have HB5 := Lib.hid hb5
  have HO5 := Lib.hid ho5'
  have HBW := Lib.hid hbw
  clear hb5 ho5 ho5' hbw hbb5
  go_wp2_with fail
  go_ret
  have hs5 := HBW.out.size
  have hsf : (w5.setCell ⟨o, 2, none⟩ (.slice A5 n5 c5)).heap.size = w5.heap.size := by simp [World.setCell]
  have hx := HX.out.new HBW.out
  have wd : ∀ k, GrowF F w w5 k → GrowF F w (w5.setCell ⟨o, 2, none⟩ (.slice A5 n5 c5)) k := fun k hk => by
    rcases hk with hk | ⟨h1, h2⟩
    · exact .inl hk
    · exact .inr ⟨h1, by rw [hsf]; exact h2⟩
  refine ⟨rfl, ⟨A1, n1, c1, A2, n2, c2, A5, n5, c5, ⟨HB5.out.set_ 2 _, (hx.r1.set 2 _).wide fun k hk => .inl hk, (hx.r2.set 2 _).wide fun k hk => .inl hk, ((RowF.made (F := F) (o := o) HO5.out HBW.out hol).set 2 _).wide wd, HOK2.out, .inl HX.out.Fo, grow_flt HX.out.Flt (by rw [hsf]; exact hs5)⟩⟩, (Kept.of_new HBW.out).setCell (p := ⟨o, 2, none⟩) (.inl HX.out.Fo) _⟩
set_option maxRecDepth 100000 in
set_option maxHeartbeats 1600000 in
theorem fgive_took (h : Rf w F o S) (n : Nat) (h2 : 2 ≤ n) (hcn : n < S.count) (hnow : inU S.now n = false) (hgave : inU S.gave n = false) (htook : inU S.took n = true) :
    Calls Try.prog 24 #[.pointer (some ⟨o, 0, none⟩), .int .u32 n] w fun e w' => e = .returned (.int .i64 0) ∧ Rf w' (GrowF F w w') o { S with took := lessU1 S.took n, now := withU S.now n } ∧ Kept F w w' := by
  have hok := h.ok
  have hsm := hok.small
  have hok2 : AlS.ok { S with took := lessU1 S.took n, now := withU S.now n } := by
    have h5 := AlS.gives_ok hok n
    have e : S.gives n = (0, { S with took := lessU1 S.took n, now := withU S.now n }) := by unfold AlS.gives; rw [if_neg (by omega), if_neg (by rw [hnow, hgave]; simp), if_pos htook]
    rw [e] at h5
    exact h5
  have hrf := h
  obtain ⟨A1, n1, c1, A2, n2, c2, A3, n3, c3, h⟩ := h
  obtain ⟨k0, k1, k2, k3, k4⟩ := rf_cells h
  have hl1 := ulen h.r1.1
  have hl2 := ulen h.r2.1
  have hl3 := ulen h.r3.1
  have hol := h.Flt _ h.Fo
  have h3 : ¬ (n : Int) < 2 := by omega
  have h4 : ¬ (S.count : Int) ≤ (n : Int) := by omega
  have HP1 := Lib.hid (rplace_any c1 n h.r1.1 hok.r1 (by omega))
  have HP3 := Lib.hid (fun q => rplace_any (w := w.drewN q) c3 n (h.r3.1.drewN q) hok.r3 (by omega))
  have HMI := Lib.hid (fun q => fmine_any (w := w.drewN q) (hrf.new (below_drewN (Below.refl _ _) q)) n)
  have hmem := inU_iff.1 htook
  have HWO := Lib.hid (fun (W : World) (hr : Reads W W.heap.size 1 A2 n2 (ucells S.took)) => rwithout_any (w := W) (c := c2) n hr hok.r2 (by omega) h.r2.2.2.1 h.r2.2.2.2 hmem)
  have HWI := Lib.hid (fun (W : World) (hr : Reads W W.heap.size 1 A1 n1 (ucells S.now)) => rwith_any (w := W) (c := c1) n hr hok.r1 (by omega) h.r1.2.2.1)
  have HX := Lib.hid h
  have HOK2 := Lib.hid hok2
  rw [hnow] at HP1
  rw [hgave] at HP3
  rw [htook] at HMI
  clear hok hsm h hl1 hl2 hl3 h2 hcn hnow hgave htook hok2 hrf hmem
  go_enter Try.func24, Try.ntmps24
  go_wp2_with fail
  refine HP1.out.mono ?_
  rintro e w2 ⟨rfl, q, rfl⟩
  go_wp2_with fail
  refine (HP3.out q).mono ?_
  rintro e w3 ⟨rfl, q3, rfl⟩
  rw [show (w.drewN q).drewN q3 = w.drewN (q + q3) from World.drewN_drewN _ _ _]
  go_wp2_with fail
  refine (HMI.out _).mono ?_
  rintro e w4 ⟨rfl, q4, rfl⟩
  obtain ⟨W, hW⟩ : ∃ W, W = (w.drewN (q + q3)).drewN q4 := ⟨_, rfl⟩
  rw [← hW]
  have HBD : Hid (Below w.heap.size w W) := Lib.hid (by rw [hW]; exact below_drewN (below_drewN (Below.refl _ _) _) _)
  have hsW : W.heap.size = w.heap.size := by rw [hW]; rfl
  have HSW := Lib.hid hsW
  have HXW := Lib.hid (HX.out.new HBD.out)
  obtain ⟨k0, k1, k2, k3, k4⟩ := rf_cells HXW.out
  have HWOD := Lib.hid (HWO.out W.drew HXW.out.r2.1)
  clear hW hsW HP1 HP3 HMI HWO
  go_wp2_with fail
  go_region_with
    (first
      | (go_at_call 44
         (with_reducible refine HWOD.out.mono ?_)
         rintro e w5 ⟨A5, n5, c5, rfl, ho5, hbb5⟩
         have hb5 := (show Blk W.drew o _ _ from HXW.out.blk).below hbb5 (by show o < W.heap.size; rw [HSW.out]; exact hol)
         have p0 := hb5.cell 0
         have p1 := hb5.cell 1
         simp at p0 p1
         have HB5 := Lib.hid hb5
         have HO5 := Lib.hid ho5
         have HBB5 := Lib.hid hbb5
         clear hb5 ho5 hbb5)
      | (go_at_call 45
         have hwi := HWI.out w5 (((show Reads W.drew W.heap.size 1 A1 n1 (ucells S.now) from HXW.out.r1.1).below HBB5.out).more HBB5.out.size)
         (with_reducible refine hwi.mono ?_)
         rintro e w6 ⟨A6, n6, c6, rfl, ho6, hbb6⟩
         have hb6 := HB5.out.below hbb6 HB5.out.lt
         have g0 := hb6.frozen 0
         have g1 := hb6.frozen 1
         have t0 := hb6.cell 0
         have t1 := hb6.cell 1
         simp at t0 t1
         have HB6 := Lib.hid hb6
         have HO6 := Lib.hid ho6
         have HBB6 := Lib.hid hbb6
         clear hb6 ho6 hbb6))
  all_goals
    go_wp2_with fail
    go_ret
    have hs5 := HBB5.out.size
    have hs6 := HBB6.out.size
    have hsd : W.drew.heap.size = w.heap.size := HSW.out
    rw [hsd] at hs5
    have hb5 : Below w.heap.size w w5 := (HBD.out.trans (((Below.refl W.heap.size W).drew.mono (by rw [HSW.out]; exact Nat.le_refl _)))).trans (HBB5.out.mono (by rw [hsd]; exact Nat.le_refl _))
    have hb6 : Below w.heap.size w w6 := hb5.trans (HBB6.out.mono hs5)
    have ho5 : w5.ownsRow w.heap.size 27 1 (.slice A5 n5 c5) n5 (ucells (lessU1 S.took n)) := by have h5 := HO5.out; rw [hsd] at h5; exact h5
    have hx6 := HX.out.new hb6
    have hs7 : ((w6.setCell ⟨o, 1, none⟩ (.slice A5 n5 c5)).setCell ⟨o, 0, none⟩ (.slice A6 n6 c6)).heap.size = w6.heap.size := by simp [World.setCell]
    have r5 : RowF w5 (GrowF F w w5) o A5 n5 c5 (lessU1 S.took n) := RowF.made (F := F) (o := o) ho5 hb5 hol
    have r56 : RowF w6 (GrowF F w w5) o A5 n5 c5 (lessU1 S.took n) := r5.kept (G := fun k => w5.heap.size ≤ k) (Kept.of_below HBB6.out fun k h1 _ => h1) (fun k hf => by
      rcases hf with hf | ⟨_, hf⟩
      · have := HX.out.Flt k hf; omega
      · omega)
    have r6 : RowF w6 (GrowF F w5 w6) o A6 n6 c6 (withU S.now n) := RowF.made (F := F) (o := o) HO6.out HBB6.out (by omega)
    have wd : ∀ k, (GrowF F w w5 k ∨ GrowF F w5 w6 k) → GrowF F w ((w6.setCell ⟨o, 1, none⟩ (.slice A5 n5 c5)).setCell ⟨o, 0, none⟩ (.slice A6 n6 c6)) k := fun k hk => by
      rcases hk with (hk | ⟨h1, h2⟩) | (hk | ⟨h1, h2⟩)
      · exact .inl hk
      · exact .inr ⟨h1, by rw [hs7]; omega⟩
      · exact .inl hk
      · exact .inr ⟨by omega, by rw [hs7]; exact h2⟩
    refine ⟨rfl, ⟨A6, n6, c6, A5, n5, c5, A3, n3, c3, ⟨(HB6.out.set_ 1 _).set_ 0 _, ((r6.set 1 _).set 0 _).wide fun k hk => wd k (.inr hk), ((r56.set 1 _).set 0 _).wide fun k hk => wd k (.inl hk), ((hx6.r3.set 1 _).set 0 _).wide fun k hk => .inl hk, HOK2.out, .inl HX.out.Fo, grow_flt HX.out.Flt (by rw [hs7]; omega)⟩⟩, ?_⟩
    exact ((Kept.of_new hb6).setCell (p := ⟨o, 1, none⟩) (.inl HX.out.Fo) _).setCell (p := ⟨o, 0, none⟩) (.inl HX.out.Fo) _
/-- Give. -/
theorem fgive_any (h : Rf w F o S) (n : Nat) :
    Calls Try.prog 24 #[.pointer (some ⟨o, 0, none⟩), .int .u32 n] w fun e w' => e = .returned (.int .i64 (S.gives n).1) ∧ Rf w' (GrowF F w w') o (S.gives n).2 ∧ Kept F w w' := by
  by_cases ha : n < 2 ∨ S.count ≤ n
  · have e : S.gives n = (2, S) := by unfold AlS.gives; rw [if_pos ha]
    refine (fgive_arg h n ha).mono ?_
    rintro e' w' ⟨rfl, rfl⟩
    rw [e]
    exact ⟨rfl, rf_same h (Below.refl _ _)⟩
  · by_cases hs : inU S.now n = true ∨ inU S.gave n = true
    · have e : S.gives n = (8, S) := by unfold AlS.gives; rw [if_neg ha, if_pos hs]
      refine (fgive_state h n (by omega) (by omega) hs).mono ?_
      rintro e' w' ⟨rfl, hb⟩
      rw [e]
      exact ⟨rfl, rf_same h hb⟩
    · have h1 : inU S.now n = false := by
        cases hx : inU S.now n
        · rfl
        · exact absurd (.inl hx) hs
      have h2 : inU S.gave n = false := by
        cases hx : inU S.gave n
        · rfl
        · exact absurd (.inr hx) hs
      cases ht : inU S.took n
      · have e : S.gives n = (0, { S with gave := withU S.gave n }) := by unfold AlS.gives; rw [if_neg ha, if_neg hs, if_neg (by rw [ht]; simp)]
        refine (fgive_used h n (by omega) (by omega) h1 h2 ht).mono ?_
        rintro e' w' ⟨rfl, ha, hk⟩
        rw [e]
        exact ⟨rfl, ha, hk⟩
      · have e : S.gives n = (0, { S with took := lessU1 S.took n, now := withU S.now n }) := by unfold AlS.gives; rw [if_neg ha, if_neg hs, if_pos ht]
        refine (fgive_took h n (by omega) (by omega) h1 h2 ht).mono ?_
        rintro e' w' ⟨rfl, ha, hk⟩
        rw [e]
        exact ⟨rfl, ha, hk⟩
end
end Go.Proofs.Ytofbglgdmabafaa

