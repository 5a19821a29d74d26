/-
  Contracts of an allocation's Take and Give, each with its conditions in its own statement.
-/
import Derived.Test.YtofbglgdmabafaaJ19
namespace Go.Proofs.Ytofbglgdmabafaa
open Go.RowKit
open Go.Lib hiding intOf
open Go.Maps (Keyed IsMap Tidy)
set_option linter.unusedVariables false
set_option linter.unusedSimpArgs false
attribute [local go_sem ↓] Go.wp_at_zero Go.wp_at_succ

section
variable {w : World} {F : Nat → Prop} {g : Nat} {S : AlS}
set_option maxRecDepth 100000 in
/-- Take where no page is free at once, and there may be one more. -/
theorem atake_more (h : Al w F g S) (hn : S.now = []) (hc : S.count < S.most) :
    Calls Try.prog 12 #[.pointer (some ⟨g, 0, none⟩)] w fun e w' => e = .returned (.tuple #[.int .u32 S.count, .int .i64 0]) ∧ Al w' F g S.takes.2.2 ∧ Kept F w w' := by
  have hv := avalid_yes h
  obtain ⟨A, nn, c, b, D, h⟩ := h
  obtain ⟨_, c1, c2, c3, c4⟩ := al_cells h
  have f2 := h.blk.frozen 2
  have hok := h.ok
  have hsm := hok.small
  have hmid := h.mid
  have hn0 : nn = 0 := by have := hmid.1; rw [hn] at this; simpa using this.symm
  subst hn0
  have hgb := h.gb
  have hc1 : (S.count : Int) < (S.most : Int) := by omega
  have wc : IntKind.u32.wrap ((S.count : Int) + 1) = (S.count : Int) + 1 := by rw [IntKind.wrap_u32]; have := hok.mm; omega
  have hmap1 : (w.drew.setCell ⟨g, 2, none⟩ (.int .u32 ((S.count : Int) + 1))).ownsMap Try.prog 27 markEl b (S.took.length + S.gave.length) D := h.map.drew.setCell (by exact hgb.symm) _
  have hb1 : Blk (w.drew.setCell ⟨g, 2, none⟩ (.int .u32 ((S.count : Int) + 1))) g 67 #[.pointer (some ⟨g, 0, none⟩), .slice A 0 c, .int .u32 ((S.count : Int) + 1), .int .u32 S.most, .map (some b)] := h.blk.drew.set_ 2 _
  have c41 := hb1.cell 4
  simp at c41
  have hno : ∀ {l : List Nat}, (∀ n ∈ l, 2 ≤ n ∧ n < S.count) → S.count ∉ l := fun hl hm => by have := hl _ hm; omega
  have hlast : ∀ w2, w2.ownsMap Try.prog 27 markEl b (S.took.length + S.gave.length + 1) (D.put (.int .u32 (S.count : Int)) (.lit (.bool false))) → (w.drew.setCell ⟨g, 2, none⟩ (.int .u32 ((S.count : Int) + 1))).mapTurned w2 b → Al w2 F g S.takes.2.2 ∧ Kept F w w2 := fun w2 ho ht => by
    have hgr := ht.grown
    have hK : Kept F w w2 := (((Kept.refl F w).drew).setCell (p := ⟨g, 2, none⟩) (.inl h.Fg) _).grown hgr (fun k e => by cases e; exact .inl h.Fb)
    have hM := h.marks.take (n := S.count) (hno hok.i2) (hno hok.i3)
    have hS : S.takes.2.2 = { S with took := withU S.took S.count, count := S.count + 1 } := by unfold AlS.takes; rw [hn]; simp only; rw [if_neg (by omega)]
    refine ⟨⟨A, 0, c, b, D.put (.int .u32 (S.count : Int)) (.lit (.bool false)), ?_⟩, hK⟩
    rw [hS]
    refine ⟨?_, ?_, tight ho (by rw [hM.size]), hM, ?_, h.Fg, h.Fb, fun k hk => Nat.lt_of_lt_of_le (h.Flt k hk) hK.size⟩
    · have := hb1.grown hgr (by intro e; cases e; exact hgb rfl)
      rw [show ((S.count : Int) + 1) = ((S.count + 1 : Nat) : Int) by omega] at this
      exact this
    · refine hmid.other fun j hj hF => ?_
      rw [hgr.block j (by simpa [World.setCell] using hj) (by intro e; cases e; exact hF.2.2 rfl)]
      exact Below.heap_setCell _ _ _ _ hF.2.1
    · have := AlS.takes_ok hok
      rw [hS] at this
      exact this
  have HL := Lib.hid hlast
  have HX := Lib.hid (show S.count < 4294967296 by omega)
  have HS := Lib.hid (show S.took.length + S.gave.length < maxLen by unfold maxLen; omega)
  clear hlast hmid hok hsm hgb hn h hb1 hno hc
  go_enter Try.func12, Try.ntmps12
  go_wp2_with (go_at_call 36; refine hv.mono ?_; rintro e w' ⟨rfl, rfl⟩)
  go_region
  all_goals
    go_wp2_with (at_mapUpdate; refine wpList_mark_put _ rfl _ _ _ rfl hmap1 HS.out rfl S.count false rfl rfl HX.out ?_; intro w2 ho2 ht2)
    go_ret2
    exact ⟨rfl, HL.out _ ho2 ht2⟩
/-- Take where there is nothing left. -/
theorem atake_full (h : Al w F g S) (hn : S.now = []) (hc : S.most ≤ S.count) :
    Calls Try.prog 12 #[.pointer (some ⟨g, 0, none⟩)] w fun e w' => e = .returned (.tuple #[.int .u32 0, .int .i64 9]) ∧ Below w.heap.size w w' := by
  have hv := avalid_yes h
  obtain ⟨A, nn, c, b, D, h⟩ := h
  obtain ⟨_, c1, c2, c3, c4⟩ := al_cells h
  have hmid := h.mid
  have hn0 : nn = 0 := by have := hmid.1; rw [hn] at this; simpa using this.symm
  subst hn0
  have hc1 : ¬ (S.count : Int) < (S.most : Int) := by omega
  clear hmid hn h hc
  go_enter Try.func12, Try.ntmps12
  go_wp2_with (go_at_call 36; refine hv.mono ?_; rintro e w' ⟨rfl, rfl⟩)
  go_region
  all_goals
    go_wp2_with fail
    go_ret2
    exact ⟨rfl, (Below.refl _ _).drew⟩
/-- Take. -/
theorem atake_any (h : Al w F g S) :
    Calls Try.prog 12 #[.pointer (some ⟨g, 0, none⟩)] w fun e w' => e = .returned (.tuple #[.int .u32 S.takes.1, .int .i64 S.takes.2.1]) ∧ Al w' F g S.takes.2.2 ∧ Kept F w w' := by
  rcases hn : S.now with _ | ⟨x, r⟩
  · rcases Nat.lt_or_ge S.count S.most with hc | hc
    · have e : S.takes = (S.count, 0, { S with took := withU S.took S.count, count := S.count + 1 }) := by unfold AlS.takes; rw [hn]; simp only; rw [if_neg (by omega)]
      refine (atake_more h hn hc).mono ?_
      rintro e' w' ⟨rfl, h1⟩
      exact ⟨by rw [e]; rfl, h1⟩
    · have e : S.takes = (0, 9, S) := by unfold AlS.takes; rw [hn]; simp only; rw [if_pos hc]
      refine (atake_full h hn hc).mono ?_
      rintro e' w' ⟨rfl, h1⟩
      rw [e]
      exact ⟨rfl, h.new h1, Kept.of_new h1⟩
  · have e : S.takes = (x, 0, { S with now := r, took := withU S.took x }) := by unfold AlS.takes; rw [hn]
    refine (atake_head h hn).mono ?_
    rintro e' w' ⟨rfl, h1⟩
    exact ⟨by rw [e]; rfl, h1⟩
set_option maxRecDepth 100000 in
theorem agive_arg (h : Al w F g S) (n : Nat) (hn : n < 2 ∨ S.count ≤ n) :
    Calls Try.prog 13 #[.pointer (some ⟨g, 0, none⟩), .int .u32 n] w fun e w' => e = .returned (.int .i64 2) ∧ w = w' := by
  have hv := avalid_yes h
  obtain ⟨A, nn, c, b, D, h⟩ := h
  obtain ⟨_, c1, c2, c3, c4⟩ := al_cells h
  by_cases h2 : n < 2
  · have h3 : (n : Int) < 2 := by omega
    clear h hn
    go_enter Try.func13, Try.ntmps13
    go_wp2_with (go_at_call 36; refine hv.mono ?_; rintro e w' ⟨rfl, rfl⟩)
    go_ret
    exact ⟨rfl, rfl⟩
  · have h3 : ¬ (n : Int) < 2 := by omega
    have h4 : (S.count : Int) ≤ (n : Int) := by omega
    clear h hn
    go_enter Try.func13, Try.ntmps13
    go_wp2_with (go_at_call 36; refine hv.mono ?_; rintro e w' ⟨rfl, rfl⟩)
    go_ret
    exact ⟨rfl, rfl⟩
set_option maxRecDepth 100000 in
theorem agive_state (h : Al w F g S) (n : Nat) (h2 : 2 ≤ n) (hcn : n < S.count) (hs : inU S.now n = true ∨ inU S.gave n = true) :
    Calls Try.prog 13 #[.pointer (some ⟨g, 0, none⟩), .int .u32 n] w fun e w' => e = .returned (.int .i64 8) ∧ Below w.heap.size w w' := by
  have hv := avalid_yes h
  obtain ⟨A, nn, c, b, D, h⟩ := h
  obtain ⟨_, c1, c2, c3, c4⟩ := al_cells h
  have hsm := h.ok.small
  have hmid := h.mid
  have hbin := ubin_any c n (hmid.reads fun k hk => h.Flt k hk.1) h.ok.r1 (by have := hmid.1; omega)
  have hmap := h.map
  have HM := Lib.hid h.marks
  have HN := Lib.hid (show n < 4294967296 by omega)
  have h3 : ¬ (n : Int) < 2 := by omega
  have h4 : ¬ (S.count : Int) ≤ (n : Int) := by omega
  clear hmid hsm h
  cases hnow : inU S.now n
  · rw [hnow] at hs hbin
    have hg : inU S.gave n = true := by simpa using hs
    have HG := Lib.hid hg
    clear hnow hs hg hcn h2
    go_enter Try.func13, Try.ntmps13
    go_wp2_with (first
      | (go_at_call 36; refine hv.mono ?_; rintro e w' ⟨rfl, rfl⟩)
      | (go_at_call 37; refine hbin.mono ?_; rintro e w' ⟨rfl, rfl⟩)
      | (at_lookup; refine wpList_mark _ rfl _ _ rfl hmap HM.out rfl n rfl HN.out ?_; rw [HG.out]))
    go_ret
    exact ⟨rfl, (Below.refl _ _).alloc (Nat.le_refl _) _⟩
  · rw [hnow] at hbin
    clear hnow hs hcn h2
    go_enter Try.func13, Try.ntmps13
    go_wp2_with (first
      | (go_at_call 36; refine hv.mono ?_; rintro e w' ⟨rfl, rfl⟩)
      | (go_at_call 37; refine hbin.mono ?_; rintro e w' ⟨rfl, rfl⟩)
      | (at_lookup; refine wpList_mark _ rfl _ _ rfl hmap HM.out rfl n rfl HN.out ?_))
    go_ret
    exact ⟨rfl, (Below.refl _ _).alloc (Nat.le_refl _) _⟩
set_option maxRecDepth 100000 in
theorem agive_used (h : Al w F g S) (n : Nat) (h2 : 2 ≤ n) (hcn : n < S.count) (hnow : inU S.now n = false) (hgave : inU S.gave n = false) (htook : inU S.took n = false) :
    Calls Try.prog 13 #[.pointer (some ⟨g, 0, none⟩), .int .u32 n] w fun e w' => e = .returned (.int .i64 0) ∧ Al w' F g { S with gave := withU S.gave n } ∧ Kept F w w' := by
  have hv := avalid_yes h
  obtain ⟨A, nn, c, b, D, h⟩ := h
  obtain ⟨_, c1, c2, c3, c4⟩ := al_cells h
  have hok := h.ok
  have hsm := hok.small
  have hmid := h.mid
  have hbin := ubin_any c n (hmid.reads fun k hk => h.Flt k hk.1) h.ok.r1 (by have := hmid.1; omega)
  have hgl := h.Flt _ h.Fg
  have hgb := h.gb
  have hmap := h.map
  have hmapA : (w.alloc (.cells #[.bool false] 69)).ownsMap Try.prog 27 markEl b (S.took.length + S.gave.length) D := h.map.alloc _
  have hb1 : Blk (w.alloc (.cells #[.bool false] 69)) g 67 #[.pointer (some ⟨g, 0, none⟩), .slice A nn c, .int .u32 S.count, .int .u32 S.most, .map (some b)] := h.blk.alloc _
  have c41 := hb1.cell 4
  simp at c41
  have hS : (S.gives n).2 = { S with gave := withU S.gave n } := by
    unfold AlS.gives
    rw [if_neg (by omega), if_neg (by rw [hnow, hgave]; simp), if_neg (by rw [htook]; simp)]
  have hlast : ∀ w2, w2.ownsMap Try.prog 27 markEl b (S.took.length + S.gave.length + 1) (D.put (.int .u32 (n : Int)) (.lit (.bool true))) → (w.alloc (.cells #[.bool false] 69)).mapTurned w2 b → Al w2 F g { S with gave := withU S.gave n } ∧ Kept F w w2 := fun w2 ho ht => by
    have hgr := ht.grown
    have hK : Kept F w w2 := ((Kept.refl F w).alloc _).grown hgr (fun k e => by cases e; exact .inl h.Fb)
    have hM := h.marks.give (n := n) (inU_no.1 htook) (inU_no.1 hgave)
    refine ⟨⟨A, nn, c, b, D.put (.int .u32 (n : Int)) (.lit (.bool true)), ?_⟩, hK⟩
    refine ⟨hb1.grown hgr (by intro e; cases e; exact hgb rfl), ?_, tight ho (by rw [hM.size]), hM, ?_, h.Fg, h.Fb, fun k hk => Nat.lt_of_lt_of_le (h.Flt k hk) hK.size⟩
    · refine hmid.other fun j hj hF => ?_
      rw [hgr.block j (by simp; omega) (by intro e; cases e; exact hF.2.2 rfl)]
      exact Below.heap_alloc _ _ _ hj
    · have := AlS.gives_ok hok n
      rw [hS] at this
      exact this
  have HL := Lib.hid hlast
  have HM := Lib.hid h.marks
  have HN := Lib.hid (show n < 4294967296 by omega)
  have HS := Lib.hid (show S.took.length + S.gave.length < maxLen by unfold maxLen; omega)
  have h3 : ¬ (n : Int) < 2 := by omega
  have h4 : ¬ (S.count : Int) ≤ (n : Int) := by omega
  rw [hnow] at hbin
  have HG := Lib.hid hgave
  have HT := Lib.hid htook
  clear hlast hmid hok hsm hgb h hb1 hnow hgave htook hcn h2 hS
  go_enter Try.func13, Try.ntmps13
  go_wp2_with (first
    | (go_at_call 36; refine hv.mono ?_; rintro e w' ⟨rfl, rfl⟩)
    | (go_at_call 37; refine hbin.mono ?_; rintro e w' ⟨rfl, rfl⟩)
    | (at_lookup; refine wpList_mark _ rfl _ _ rfl hmap HM.out rfl n rfl HN.out ?_; rw [HG.out, HT.out])
    | (at_mapUpdate; refine wpList_mark_put _ rfl _ _ _ rfl hmapA HS.out rfl n true rfl rfl HN.out ?_; intro w2 ho2 ht2))
  go_ret
  exact ⟨rfl, HL.out _ ho2 ht2⟩
end
end Go.Proofs.Ytofbglgdmabafaa

