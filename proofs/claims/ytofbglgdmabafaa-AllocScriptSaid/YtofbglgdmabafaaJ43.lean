/-
  Contract of the reference's New of layer 14, with its conditions in its own statement.
-/
import Derived.Test.YtofbglgdmabafaaJ41
import Derived.Test.YtofbglgdmabafaaJ42
namespace Go.Proofs.Ytofbglgdmabafaa
open Go.RowKit
open Go.Lib hiding intOf
set_option linter.unusedVariables false
set_option linter.unusedSimpArgs false
attribute [local go_sem ↓] Go.wp_at_zero Go.wp_at_succ

theorem inB_numbers {l : List Nat} {pages : Nat} (hp : pages ≤ 1048576) (h0 : 0 < l.length) : inB l pages = ((allU l && ascU l) && decide (nthU l (l.length - 1) < pages)) := by
  cases ha : ascU l
  · unfold inB; rw [ha]; simp
  · have hr := rise_asc.1 ha
    rw [Bool.eq_iff_iff]
    unfold inB
    rw [ha]
    simp only [Bool.true_and, Bool.and_true, Bool.and_eq_true, decide_eq_true_eq, List.all_eq_true]
    have hall : allU l = true ↔ ∀ n ∈ l, 2 ≤ n ∧ n ≤ 2147483647 := by
      unfold allU numB
      rw [List.all_eq_true]
      simp
    rw [hall]
    have hle : ∀ n ∈ l, n ≤ nthU l (l.length - 1) := fun n hn => by
      obtain ⟨k, hk, rfl⟩ := nth_mem hn
      rcases Nat.lt_or_ge k (l.length - 1) with h | h
      · exact Nat.le_of_lt (rise_nth hr h (by omega))
      · rw [show k = l.length - 1 by omega]; exact Nat.le_refl _
    constructor
    · intro h
      exact ⟨fun n hn => by have := h n hn; omega, (h _ (mem_nth (by omega))).2⟩
    · rintro ⟨h1, h2⟩ n hn
      have := h1 n hn
      have := hle n hn
      omega
/-- What the reference's New answers, and leaves. -/
def FNewPost (l : List Nat) (pages most : Nat) (w : World) (e : Ending) (w' : World) : Prop :=
  Below w.heap.size w w' ∧ ((mayAl l pages most = true ∧ ∃ o, e = .returned (.tuple #[.pointer (some ⟨o, 0, none⟩), .int .i64 0]) ∧ Rf w' (fun k => w.heap.size ≤ k ∧ k < w'.heap.size) o (alNew l pages most)) ∨ (mayAl l pages most = false ∧ e = .returned (.tuple #[.pointer none, .int .i64 2])))
theorem FNewPost.no {l : List Nat} {pages most : Nat} {w w' : World} (h : mayAl l pages most = false) (hb : Below w.heap.size w w') : FNewPost l pages most w (.returned (.tuple #[.pointer none, .int .i64 2])) w' := ⟨hb, .inr ⟨h, rfl⟩⟩
set_option maxRecDepth 100000 in
set_option maxHeartbeats 1600000 in
theorem fnew_any {w : World} {A : Option Addr} {n : Nat} (c : Nat) {l : List Nat} (pages most : Nat) (hr : Reads w w.heap.size 1 A n (ucells l)) (hn : n ≤ 1000000) :
    Calls Try.prog 22 #[.slice A n c, .int .u32 pages, .int .u32 most] w (FNewPost l pages most w) := by
  obtain ⟨i0, hi0, hz0, hz1, hz2⟩ := info_parts infoU32b
  have hlen := ulen hr
  have hnum := rnumbers_any A n c l w hr (by unfold maxLen; omega)
  by_cases h1 : pages < 2
  · have g1 : (pages : Int) < 2 := by omega
    have E := Lib.hid (show mayAl l pages most = false by rw [mayAl_is, decide_eq_false (by omega), Bool.false_and])
    clear hr hlen hnum h1
    go_enter Try.func22, Try.ntmps22
    go_wp2_with fail
    go_ret2
    exact FNewPost.no E.out (Below.refl _ _)
  have g1 : ¬ (pages : Int) < 2 := by omega
  by_cases h2 : most < pages
  · have g2 : (most : Int) < (pages : Int) := by omega
    have E := Lib.hid (show mayAl l pages most = false by rw [mayAl_is, decide_eq_false (show ¬ pages ≤ most by omega), Bool.false_and, Bool.and_false])
    clear hr hlen hnum h1 h2
    go_enter Try.func22, Try.ntmps22
    go_wp2_with fail
    go_ret2
    exact FNewPost.no E.out (Below.refl _ _)
  have g2 : ¬ (most : Int) < (pages : Int) := by omega
  by_cases h3 : 1048576 < most
  · have g3 : (1048576 : Int) < (most : Int) := by omega
    have E := Lib.hid (show mayAl l pages most = false by rw [mayAl_is, decide_eq_false (show ¬ most ≤ 1048576 by omega), Bool.false_and, Bool.and_false, Bool.and_false])
    clear hr hlen hnum h1 h2 h3
    go_enter Try.func22, Try.ntmps22
    go_wp2_with fail
    go_ret2
    exact FNewPost.no E.out (Below.refl _ _)
  have g3 : ¬ (1048576 : Int) < (most : Int) := by omega
  have em : mayAl l pages most = inB l pages := by rw [mayAl_is, decide_eq_true (by omega), decide_eq_true (by omega), decide_eq_true (by omega)]; simp
  have HR := Lib.hid hr
  have HL := Lib.hid hlen
  have finish : ∀ (q : Nat), mayAl l pages most = true → ∀ (A' : Option Addr) (c' : Nat) (w2 : World), w2.ownsRow w.heap.size 27 1 (.slice A' n c') n (ucells l) → Below w.heap.size w w2 → FNewPost l pages most w (.returned (.tuple #[.pointer (some ⟨w2.heap.size, 0, none⟩), .int .i64 0])) (w2.alloc (.cells #[.slice A' n c', .slice none 0 0, .slice none 0 0, .int .u32 pages, .int .u32 most] 44)) := fun q hmay A' c' w2 ho hb => by
    have hs := hb.size
    have hb2 := hb.alloc hs (.cells #[.slice A' n c', .slice none 0 0, .slice none 0 0, .int .u32 pages, .int .u32 most] 44)
    have hrow : RowF w2 (GrowF (fun _ => False) w w2) w2.heap.size A' n c' l := by
      obtain ⟨A2, c2, e, e1, e2, _⟩ := own_form ho
      injection e with e3 _ e4
      subst e3
      subst e4
      refine ⟨Reads.of_own ho, fun ad e => ?_, e1, e2⟩
      subst e
      rcases ho.2 with ⟨hv, _⟩ | ⟨gg, cap, cur, hv, _⟩
      · cases hv
      · injection hv with hA
        injection hA with hA
        subst hA
        have := ho.lt gg rfl
        exact ⟨.inr this, by show gg ≠ w2.heap.size; omega⟩
    have hrow2 := (hrow.kept (w' := w2.alloc (.cells #[.slice A' n c', .slice none 0 0, .slice none 0 0, .int .u32 pages, .int .u32 most] 44)) (G := fun _ => False) ((Kept.refl _ w2).alloc _) (fun k _ h => h)).wide (G := fun k => w.heap.size ≤ k ∧ k < (w2.alloc (.cells #[.slice A' n c', .slice none 0 0, .slice none 0 0, .int .u32 pages, .int .u32 most] 44)).heap.size) (fun k hk => by
      rcases hk with hk | ⟨h1, h2⟩
      · exact hk.elim
      · exact ⟨h1, by simp; omega⟩)
    refine ⟨hb2, .inl ⟨hmay, w2.heap.size, rfl, A', n, c', none, 0, 0, none, 0, 0, ⟨Blk.new _ _ _, hrow2, RowF.nil, RowF.nil, alNew_ok hmay, ⟨hs, by simp⟩, fun k hk => hk.2⟩⟩⟩
  have FIN := Lib.hid finish
  clear hr finish
  cases hno : (allU l && ascU l)
  · rw [hno] at hnum
    have E := Lib.hid (show mayAl l pages most = false by
      rw [em]
      rcases Nat.eq_zero_or_pos n with h0 | h0
      · obtain rfl := List.eq_nil_of_length_eq_zero (hlen.trans h0)
        simp [allU, ascU] at hno
      · rw [inB_numbers (by omega) (by omega), hno, Bool.false_and])
    clear hlen h1 h2 h3 em hno
    go_enter Try.func22, Try.ntmps22
    go_wp2_with (go_at_call 43; refine hnum.mono ?_; rintro e w' ⟨rfl, q, rfl⟩)
    go_ret2
    exact FNewPost.no E.out (below_drewN (Below.refl _ _) q)
  · rw [hno] at hnum
    rcases Nat.eq_zero_or_pos n with h0 | h0
    · subst h0
      obtain rfl := List.eq_nil_of_length_eq_zero hlen
      have E := Lib.hid (show mayAl [] pages most = true by rw [em]; rfl)
      clear hlen h1 h2 h3 em hno
      go_enter Try.func22, Try.ntmps22
      go_wp2_with (first
        | (go_at_call 43; refine hnum.mono ?_; rintro e w' ⟨rfl, q, rfl⟩; have HO := Lib.hid (World.ownsRow_made (e := 27) (size := 1) (w.drewN q) #[] 0 (Nat.le_refl w.heap.size) (by simp [maxLen]) rfl); have B1 := Lib.hid ((below_drewN (Below.refl w.heap.size w) q).alloc (Nat.le_refl _) (.cells #[] 27)))
        | (at_builtin; refine wpList_append_any _ rfl (.tmp 39) (.tmp 40) _ rfl w.heap.size 27 i0 _ 1 4 Try.underlying28 hi0 hz0 hz1 hz2 rfl (by omega) _ 0 [] rfl HO.out w.heap.size A 0 c [] rfl (HR.out.below B1.out) (ucells_one []) (by unfold maxLen; omega) (by omega) B1.out.size ?_; intro v2 w2 hown2 hg2 hat2; obtain ⟨A2', c2', rfl, _⟩ := own_form hown2; have HOW := Lib.hid hown2; have HG := Lib.hid hg2; clear hown2 hg2 hat2))
      go_ret2
      exact FIN.out 0 E.out _ _ w2 HOW.out (B1.out.grown HG.out B1.out.size (by rintro g ⟨⟩; exact Nat.le_refl _))
    · obtain ⟨ad, hA, _, cl⟩ := ureads_at HR.out (k := n - 1) (by omega)
      subst hA
      have hn0 : (0 : Int) < (n : Int) := by omega
      have hi1 : (0 : Int) ≤ ((n - 1 : Nat) : Int) := by omega
      have hi2 : ((n - 1 : Nat) : Int) < (n : Int) := by omega
      have e1 : (n : Int) - 1 = ((n - 1 : Nat) : Int) := by omega
      have em2 : mayAl l pages most = decide (nthU l (n - 1) < pages) := by rw [em, inB_numbers (by omega) (by omega), hno, Bool.true_and, hlen]
      by_cases hlast : nthU l (n - 1) < pages
      · have hg3 : ¬ (pages : Int) ≤ (nthU l (n - 1) : Int) := by omega
        have E := Lib.hid (show mayAl l pages most = true by rw [em2, decide_eq_true hlast])
        clear hlen h1 h2 h3 em hno em2 hlast
        obtain ⟨qq, hq⟩ : ∃ q, q = n - 1 := ⟨_, rfl⟩
        rw [← hq] at cl hg3 hi1 hi2 e1
        generalize nthU l qq = v at cl hg3
        clear hq
        go_enter Try.func22, Try.ntmps22
        go_wp2_with (first
          | (go_at_call 43; refine hnum.mono ?_; rintro e w' ⟨rfl, q, rfl⟩; have HO := Lib.hid (World.ownsRow_made (e := 27) (size := 1) (w.drewN q) #[] 0 (Nat.le_refl w.heap.size) (by simp [maxLen]) rfl); have B1 := Lib.hid ((below_drewN (Below.refl w.heap.size w) q).alloc (Nat.le_refl _) (.cells #[] 27)))
          | (at_builtin; refine wpList_append_any _ rfl (.tmp 39) (.tmp 40) _ rfl w.heap.size 27 i0 _ 1 4 Try.underlying28 hi0 hz0 hz1 hz2 rfl (by omega) _ 0 [] rfl HO.out w.heap.size (some ad) n c _ rfl (HR.out.below B1.out) (ucells_one _) (by unfold maxLen; omega) (by omega) B1.out.size ?_; intro v2 w2 hown2 hg2 hat2; simp only [Nat.zero_add, List.nil_append] at hown2; obtain ⟨A2', c2', rfl, _⟩ := own_form hown2; have HOW := Lib.hid hown2; have HG := Lib.hid hg2; clear hown2 hg2 hat2))
        go_ret2
        exact FIN.out 0 E.out _ _ w2 HOW.out (B1.out.grown HG.out B1.out.size (by rintro g ⟨⟩; exact Nat.le_refl _))
      · have hg3 : (pages : Int) ≤ (nthU l (n - 1) : Int) := by omega
        have E := Lib.hid (show mayAl l pages most = false by rw [em2, decide_eq_false hlast])
        clear hlen h1 h2 h3 em hno em2 hlast
        obtain ⟨qq, hq⟩ : ∃ q, q = n - 1 := ⟨_, rfl⟩
        rw [← hq] at cl hg3 hi1 hi2 e1
        generalize nthU l qq = v at cl hg3
        clear hq
        go_enter Try.func22, Try.ntmps22
        go_wp2_with (go_at_call 43; refine hnum.mono ?_; rintro e w' ⟨rfl, q, rfl⟩)
        go_ret2
        exact FNewPost.no E.out (below_drewN (Below.refl _ _) q)
end Go.Proofs.Ytofbglgdmabafaa

