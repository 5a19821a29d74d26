/-
  Contracts of maps.Clone, of an allocation's Free, Taken and Copy: each with its conditions in its own statement.
-/
import Derived.Test.YtofbglgdmabafaaJ34
import Derived.Deep.RegionHeld3
namespace Go.Proofs.Ytofbglgdmabafaa
open Go.RowKit
open Go.Lib hiding intOf
open Go.Maps (Keyed IsMap Tidy)
set_option linter.unusedVariables false
set_option linter.unusedSimpArgs false
attribute [local go_sem ↓] Go.wp_at_zero Go.wp_at_succ

/-- A row of the call's own that has these numbers. -/
def RowPost (l : List Nat) (w : World) (e : Ending) (w' : World) : Prop := ∃ A n c, e = .returned (.slice A n c) ∧ w'.ownsRow w.heap.size 27 1 (.slice A n c) n (ucells l) ∧ Below w.heap.size w w'
theorem own_len {w : World} {base n : Nat} {v : Value} {l : List Nat} (h : w.ownsRow base 27 1 v n (ucells l)) : l.length = n := by
  have := h.1
  rw [ucells_length] at this
  omega
section
variable {w : World} {F : Nat → Prop} {g : Nat} {S : AlS}
set_option maxRecDepth 100000 in
theorem ataken_any (h : Al w F g S) (hT : S.took.length ≤ 1000000) :
    Calls Try.prog 19 #[.pointer (some ⟨g, 0, none⟩)] w (RowPost S.took w) := by
  have hv := avalid_yes h
  have hm := amarked_any h false
  have HOK := Lib.hid h.ok
  have HT := Lib.hid hT
  clear h hT
  go_enter Try.func19, Try.ntmps19
  go_wp2_with (first
    | (go_at_call 36; refine hv.mono ?_; rintro e w' ⟨rfl, rfl⟩)
    | (go_at_call 41; refine hm.mono ?_; rintro e w1 ⟨A, n, c, l, rfl, ho1, hb1, hnd, hmem⟩; have HL := Lib.hid (And.intro hnd hmem); clear hnd hmem)
    | (go_at_call 42
       refine (sortW_any ho1 (by have h1 : l.length ≤ S.took.length := nodup_len HL.out.1 (fun m hm => (HL.out.2 m).1 hm); have h2 := own_len ho1; have h3 := HT.out; omega) hb1.size).mono ?_
       rintro e w2 ⟨rfl, l', hp, hs, ho2, hb2⟩))
  go_ret
  have e : l' = S.took := sorted_is hp hs HL.out.1 HOK.out.r2 (fun m => HL.out.2 m)
  subst e
  exact ⟨A, n, c, rfl, ho2, hb1.trans hb2⟩
set_option maxRecDepth 100000 in
set_option maxHeartbeats 1600000 in
theorem afree_any (h : Al w F g S) (hT : S.now.length + S.gave.length ≤ 1000000) :
    Calls Try.prog 18 #[.pointer (some ⟨g, 0, none⟩)] w (RowPost S.frees w) := by
  have hv := avalid_yes h
  have hd := h.new ((Below.refl _ w).drew)
  have hm := amarked_any hd true
  obtain ⟨A, nn, c, b, D, h⟩ := h
  obtain ⟨_, c1, _, _, _⟩ := al_cells h
  have hgl := h.Flt _ h.Fg
  have HR := Lib.hid (h.mid.reads fun k hk => h.Flt k hk.1)
  have HB := Lib.hid h.blk
  have HL0 := Lib.hid h.mid.1
  have HOK := Lib.hid h.ok
  have HT := Lib.hid hT
  clear h hT hd
  go_enter Try.func18, Try.ntmps18
  go_wp2_with (first
    | (go_at_call 36; refine hv.mono ?_; rintro e w' ⟨rfl, rfl⟩))
  go_region_held3 (fun w' => w'.cell? ⟨g, 1, none⟩ = some (.slice A nn c))
    (first | exact k2 | exact k1b | exact k1 | exact c1)
    (first
      | (go_at_call 41
         (with_reducible refine hm.mono ?_)
         rintro e w1 ⟨A1, n1, cc1, l, rfl, ho1, hb1, hnd, hmem⟩
         have hmem2 : ∀ m, m ∈ l ↔ m ∈ S.gave := hmem
         have hb1 : Below w.heap.size w.drew w1 := hb1
         have ho1 : w1.ownsRow w.heap.size 27 1 (.slice A1 n1 cc1) n1 (ucells l) := ho1
         have HL := Lib.hid (And.intro hnd hmem2)
         clear hnd hmem hmem2
         have k1 : w1.cell? ⟨g, 1, none⟩ = some (.slice A nn c) := (HB.out.drew.below hb1 hgl).cell 1
         have k1b : (w1.alloc (.cells #[.slice A nn c, .slice A1 n1 cc1] 28)).cell? ⟨g, 1, none⟩ = some (.slice A nn c) := ((HB.out.drew.below hb1 hgl).alloc _).cell 1)
      | (go_at_call 40
         (with_reducible refine (uconcat_any (Blk.new _ _ _) ((HR.out.drew.below hb1).alloc (by have := hb1.size; simpa using this) _) ((Reads.of_own ho1).alloc (Nat.le_refl _) _) (by have := hb1.size; simp at this; simp; omega) (by simp) (by have := HL0.out; have := HT.out; omega) (by have h1 := nodup_len HL.out.1 (fun m hm => (HL.out.2 m).1 hm); have h2 := own_len ho1; have h3 := HT.out; omega)).mono ?_)
         rintro e w2 ⟨A2, cc2, rfl, ho2, hb2⟩
         have k2 : w2.cell? ⟨g, 1, none⟩ = some (.slice A nn c) := (((HB.out.drew.below hb1 hgl).alloc _).below hb2 (by have := hb1.size; simp at this; simp; omega)).cell 1))
  all_goals
    go_wp2_with (go_at_call 42
                 refine (sortW_any ho2 (by have h1 := nodup_len HL.out.1 (fun m hm => (HL.out.2 m).1 hm); have h2 := own_len ho1; have h3 := HT.out; have h4 := HL0.out; omega) hb2.size).mono ?_
                 rintro e w3 ⟨rfl, l', hp, hs, ho3, hb3⟩)
    go_ret
    have hmem := HL.out.2
    have e : l' = S.frees := sorted_is hp hs (List.nodup_append.2 ⟨rise_nodup HOK.out.r1, HL.out.1, fun a ha b hb e => by subst e; exact HOK.out.d13 a ha ((hmem a).1 hb)⟩) (AlS.frees_rise HOK.out) (fun m => by rw [List.mem_append, AlS.frees_mem HOK.out]; exact ⟨fun h => h.imp id (hmem m).1, fun h => h.imp id (hmem m).2⟩)
    subst e
    have hs1 := hb1.size
    simp at hs1
    exact ⟨A2, _, cc2, rfl, own_low ho3 (by simp; omega), (((Below.refl _ w).drew.trans hb1).alloc (by omega) _).trans ((hb2.trans hb3).mono (by simp; omega))⟩
end
end Go.Proofs.Ytofbglgdmabafaa

