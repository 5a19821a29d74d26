/-
  Contract of an allocation's Give, with its conditions in its own statement.
-/
import Derived.Test.YtofbglgdmabafaaJ20
namespace Go.Proofs.Ytofbglgdmabafaa
open Go.RowKit
open Go.Lib hiding intOf
open Go.Maps (Keyed IsMap Tidy)
set_option linter.unusedVariables false
set_option linter.unusedSimpArgs false
attribute [local go_sem ↓] Go.wp_at_zero Go.wp_at_succ

section
variable {w : World} {F : Nat → Prop} {g : Nat} {S : AlS}
set_option maxRecDepth 100000 in
set_option maxHeartbeats 1600000 in
theorem agive_took (h : Al w F g S) (n : Nat) (h2 : 2 ≤ n) (hcn : n < S.count) (hnow : inU S.now n = false) (hgave : inU S.gave n = false) (htook : inU S.took n = true) :
    Calls Try.prog 13 #[.pointer (some ⟨g, 0, none⟩), .int .u32 n] w fun e w' => e = .returned (.int .i64 0) ∧ Al w' (GrowF F w w') g { S with took := lessU1 S.took n, now := withU S.now n } ∧ Kept F w w' := by
  have hv := avalid_yes h
  obtain ⟨A, nn, c, b, D, h⟩ := h
  obtain ⟨_, c1, c2, c3, c4⟩ := al_cells h
  have hok := h.ok
  have hsm := hok.small
  have hmid := h.mid
  have hnn := hmid.1
  have hbin := ubin_any c n (hmid.reads fun k hk => h.Flt k hk.1) h.ok.r1 (by omega)
  have hgl := h.Flt _ h.Fg
  have hbl := h.Flt _ h.Fb
  have hgb := h.gb
  have hmap := h.map
  obtain ⟨wA, hwA⟩ : ∃ x, x = w.alloc (.cells #[.bool false] 69) := ⟨_, rfl⟩
  have hA : Below w.heap.size w wA := by rw [hwA]; exact (Below.refl _ _).alloc (Nat.le_refl _) _
  have hAs : wA.heap.size = w.heap.size + 1 := by rw [hwA]; simp
  have hmapA : wA.ownsMap Try.prog 27 markEl b (S.took.length + S.gave.length) D := by rw [hwA]; exact h.map.alloc _
  have hb1 : Blk wA g 67 #[.pointer (some ⟨g, 0, none⟩), .slice A nn c, .int .u32 S.count, .int .u32 S.most, .map (some b)] := by rw [hwA]; exact h.blk.alloc _
  have hmA : MidU wA (fun k => F k ∧ k ≠ g ∧ k ≠ b) A nn c S.now := hmid.other fun j hj hF => hA.block j hj
  have c41 := hb1.cell 4
  have hS : (S.gives n).2 = { S with took := lessU1 S.took n, now := withU S.now n } := by
    unfold AlS.gives
    rw [if_neg (by omega), if_neg (by rw [hnow, hgave]; simp), if_pos htook]
  have hok2 : AlS.ok { S with took := lessU1 S.took n, now := withU S.now n } := by
    have := AlS.gives_ok hok n
    rw [hS] at this
    exact this
  have hM := h.marks.back hok.r2 (inU_iff.1 htook) (inU_no.1 hgave)
  have HM := Lib.hid h.marks
  have HM2 := Lib.hid hM
  have HOK := Lib.hid hok2
  have HN := Lib.hid (show n < 4294967296 by omega)
  have h3 : ¬ (n : Int) < 2 := by omega
  have h4 : ¬ (S.count : Int) ≤ (n : Int) := by omega
  rw [hnow] at hbin
  have HG := Lib.hid hgave
  have HT := Lib.hid htook
  have HGB := Lib.hid hgb
  have HF := Lib.hid h.Flt
  have HFg := Lib.hid h.Fg
  have HFb := Lib.hid h.Fb
  have HB1 := Lib.hid hb1
  have HMA := Lib.hid hmA
  have HA := Lib.hid hA
  have HAS := Lib.hid hAs
  have HNN := Lib.hid (And.intro hnn hsm)
  have HPL := Lib.hid (placeU_le S.now n)
  simp at c41
  clear hmid hok hsm hgb h hb1 hnow hgave htook hcn h2 hS hok2 hM hnn hmA hA hAs
  subst hwA
  go_enter Try.func13, Try.ntmps13
  go_wp2_with (first
    | (go_at_call 36; refine hv.mono ?_; rintro e w' ⟨rfl, rfl⟩)
    | (go_at_call 37; refine hbin.mono ?_; rintro e w' ⟨rfl, rfl⟩)
    | (at_lookup; refine wpList_mark _ rfl _ _ rfl hmap HM.out rfl n rfl HN.out ?_; rw [HG.out, HT.out])
    | (at_delete
       refine wpList_mark_del _ rfl _ _ rfl hmapA rfl n rfl HN.out ?_
       intro w1 ho1 ht1
       have HO1 := Lib.hid ho1
       have HG1 := Lib.hid ht1.grown
       have hb2 := HB1.out.grown HG1.out (by intro e; cases e; exact HGB.out rfl)
       have k1 := hb2.cell 1
       have q1 := hb2.frozen 1
       have HB2 := Lib.hid hb2
       simp at k1
       clear hb2 ho1 ht1)
    | (go_at_call 38
       refine (uins_any (F := fun k => F k ∧ k ≠ g ∧ k ≠ b) (placeU S.now n) n w1.heap.size (HMA.out.other (w' := w1.alloc (.cells #[.int .u32 n] 27)) (fun j hj hF => (Below.heap_alloc _ _ _ (Nat.lt_of_lt_of_le hj HG1.out.size)).trans (HG1.out.block j hj (by intro e; cases e; exact hF.2.2 rfl)))) (by have := HNN.out; omega) (by have := HNN.out; have := HPL.out; omega) (Blk.new _ _ _) (fun hF => by have h5 := HF.out _ hF.1; have h6 := HG1.out.size; have h7 := HAS.out; omega)).mono ?_
       rintro e w3 ⟨A', c', rfl, hM3, hK3⟩
       have hb3 := hK3.blk (HB2.out.alloc _) (by intro hF; exact hF.2.1 rfl)
       have q3 := hb3.frozen 1
       have k3 := hb3.cell 1
       simp at k3
       have HB3 := Lib.hid hb3
       have HM3 := Lib.hid hM3
       have HK3 := Lib.hid hK3
       clear hb3 hM3 hK3))
  go_ret
  obtain ⟨W, hW⟩ : ∃ x, x = w.alloc (.cells #[.bool false] 69) := ⟨_, rfl⟩
  have hs1 := HG1.out.size
  have hs3 := HK3.out.size
  rw [World.alloc] at hs3
  have hsz : w.heap.size + 1 ≤ w1.heap.size := by have := HAS.out; omega
  have hs4 : w1.heap.size + 1 ≤ w3.heap.size := by simpa using HK3.out.size
  have hKall : Kept F w (w3.setCell ⟨g, 1, none⟩ (.slice A' (nn + 1) c')) := by
    have a1 : Kept F w w1 := ((Kept.refl F w).alloc _).grown HG1.out (fun k e => by cases e; exact .inl HFb.out)
    have a2 : Kept F w w3 := (a1.alloc (.cells #[.int .u32 n] 27)).trans (HK3.out.mono fun k hk => hk.1)
    exact a2.setCell (p := ⟨g, 1, none⟩) (.inl HFg.out) _
  refine ⟨rfl, ⟨A', nn + 1, c', b, D.del (.int .u32 (n : Int)), ?_⟩, hKall⟩
  have hsz4 : (w3.setCell ⟨g, 1, none⟩ (.slice A' (nn + 1) c')).heap.size = w3.heap.size := by simp [World.setCell]
  refine ⟨HB3.out.set_ 1 _, ?_, ?_, HM2.out, HOK.out, .inl HFg.out, .inl HFb.out, ?_⟩
  · have h6 : MidU (w3.setCell ⟨g, 1, none⟩ (.slice A' (nn + 1) c')) (GrowF (fun k => F k ∧ k ≠ g ∧ k ≠ b) (w1.alloc (.cells #[.int .u32 n] 27)) w3) A' (nn + 1) c' (S.now.take (placeU S.now n) ++ n :: S.now.drop (placeU S.now n)) := HM3.out.other fun j hj hF => by
      refine Below.heap_setCell _ _ _ _ ?_
      rintro rfl
      rcases hF with hF | ⟨hF, _⟩
      · exact hF.2.1 rfl
      · have := HF.out _ HFg.out
        simp at hF
        omega
    refine h6.wide fun k hk => ?_
    have hgk := HF.out _ HFg.out
    have hbk := HF.out _ HFb.out
    rcases hk with hk | ⟨hk, hk2⟩
    · exact ⟨.inl hk.1, hk.2⟩
    · simp at hk
      exact ⟨.inr ⟨by omega, by rw [hsz4]; exact hk2⟩, by omega, by omega⟩
  · have o3 : w3.ownsMap Try.prog 27 markEl b (S.took.length + S.gave.length) (D.del (.int .u32 (n : Int))) := ownsMap_kept (HO1.out.alloc _) HK3.out (by intro hF; exact hF.2.2 rfl)
    exact tight (o3.setCell (fun e => HGB.out e.symm) _) (by rw [HM2.out.size])
  · intro k hk
    rw [hsz4]
    rcases hk with hk | ⟨_, hk⟩
    · have := HF.out _ hk
      omega
    · rw [hsz4] at hk
      exact hk
/-- Give. -/
theorem agive_any (h : Al w F g S) (n : Nat) :
    Calls Try.prog 13 #[.pointer (some ⟨g, 0, none⟩), .int .u32 n] w fun e w' => e = .returned (.int .i64 (S.gives n).1) ∧ Al w' (GrowF F w w') g (S.gives n).2 ∧ Kept F w w' := by
  have wd : ∀ {w' : World} {T : AlS}, Al w' F g T → Kept F w w' → Al w' (GrowF F w w') g T := fun {w' T} h1 h2 => h1.wide (fun k hk => .inl hk) fun k hk => by
    rcases hk with hk | ⟨_, hk⟩
    · exact h1.lt k hk
    · exact hk
  by_cases ha : n < 2 ∨ S.count ≤ n
  · have e : S.gives n = (2, S) := by unfold AlS.gives; rw [if_pos ha]
    refine (agive_arg h n ha).mono ?_
    rintro e' w' ⟨rfl, rfl⟩
    rw [e]
    exact ⟨rfl, wd h (Kept.refl _ _), Kept.refl _ _⟩
  · by_cases hs : inU S.now n = true ∨ inU S.gave n = true
    · have e : S.gives n = (8, S) := by unfold AlS.gives; rw [if_neg ha, if_pos hs]
      refine (agive_state h n (by omega) (by omega) hs).mono ?_
      rintro e' w' ⟨rfl, hb⟩
      rw [e]
      exact ⟨rfl, wd (h.new hb) (Kept.of_new hb), Kept.of_new hb⟩
    · have h1 : inU S.now n = false := by
        cases hx : inU S.now n
        · rfl
        · exact absurd (.inl hx) hs
      have h2 : inU S.gave n = false := by
        cases hx : inU S.gave n
        · rfl
        · exact absurd (.inr hx) hs
      cases ht : inU S.took n
      · have e : S.gives n = (0, { S with gave := withU S.gave n }) := by unfold AlS.gives; rw [if_neg ha, if_neg hs, if_neg (by rw [ht]; simp)]
        refine (agive_used h n (by omega) (by omega) h1 h2 ht).mono ?_
        rintro e' w' ⟨rfl, ha, hk⟩
        rw [e]
        exact ⟨rfl, wd ha hk, hk⟩
      · have e : S.gives n = (0, { S with took := lessU1 S.took n, now := withU S.now n }) := by unfold AlS.gives; rw [if_neg ha, if_neg hs, if_pos ht]
        refine (agive_took h n (by omega) (by omega) h1 h2 ht).mono ?_
        rintro e' w' ⟨rfl, ha, hk⟩
        rw [e]
        exact ⟨rfl, ha, hk⟩
end
end Go.Proofs.Ytofbglgdmabafaa

