/-
  Contracts of alloc.New and of an allocation's Copy: each with its conditions in its own statement.
-/
import Derived.Test.YtofbglgdmabafaaJ35
namespace Go.Proofs.Ytofbglgdmabafaa
open Go.RowKit
open Go.Lib hiding intOf
open Go.Maps (Keyed IsMap Tidy)
set_option linter.unusedVariables false
set_option linter.unusedSimpArgs false
attribute [local go_sem ↓] Go.wp_at_zero Go.wp_at_succ

/-- Numbers that ascend, and are pages. -/
def inB (l : List Nat) (pages : Nat) : Bool := ascU l && l.all fun n => decide (2 ≤ n) && decide (n < pages)
theorem inB_nil (pages : Nat) : inB [] pages = true := rfl
theorem inB_first {l : List Nat} {pages : Nat} (h0 : 0 < l.length) (h : nthU l 0 < 2) : inB l pages = false := by
  unfold inB
  rw [Bool.and_eq_false_iff]
  refine .inr ?_
  rw [List.all_eq_false]
  exact ⟨nthU l 0, mem_nth h0, by simp; omega⟩
theorem inB_last {l : List Nat} {pages : Nat} (h0 : 0 < l.length) (h : pages ≤ nthU l (l.length - 1)) : inB l pages = false := by
  unfold inB
  rw [Bool.and_eq_false_iff]
  refine .inr ?_
  rw [List.all_eq_false]
  exact ⟨nthU l (l.length - 1), mem_nth (by omega), by simp; omega⟩
theorem inB_asc {l : List Nat} {pages : Nat} (h0 : 0 < l.length) (h1 : 2 ≤ nthU l 0) (h2 : nthU l (l.length - 1) < pages) : inB l pages = ascU l := by
  unfold inB
  cases ha : ascU l
  · rfl
  · have hr := rise_asc.1 ha
    rw [Bool.true_and, List.all_eq_true]
    intro n hn
    obtain ⟨k, hk, rfl⟩ := nth_mem hn
    have a : nthU l 0 ≤ nthU l k := by
      rcases Nat.eq_zero_or_pos k with h | h
      · rw [h]; exact Nat.le_refl _
      · exact Nat.le_of_lt (rise_nth hr h hk)
    have b : nthU l k ≤ nthU l (l.length - 1) := by
      rcases Nat.lt_or_ge k (l.length - 1) with h | h
      · exact Nat.le_of_lt (rise_nth hr h (by omega))
      · rw [show k = l.length - 1 by omega]; exact Nat.le_refl _
    simp
    omega
theorem within_any {w : World} {A : Option Addr} {n : Nat} (c : Nat) {l : List Nat} (pages : Nat) (hr : Reads w w.heap.size 1 A n (ucells l)) (hn : n ≤ 1000000) :
    Calls Try.prog 34 #[.slice A n c, .int .u32 pages] w fun e w' => e = .returned (.bool (inB l pages)) ∧ Below w.heap.size w w' := by
  have hlen := ulen hr
  rcases Nat.eq_zero_or_pos n with h0 | h0
  · subst h0
    obtain rfl := List.eq_nil_of_length_eq_zero hlen
    rw [inB_nil]
    clear hr hlen hn
    go_enter Try.func34, Try.ntmps34
    go_wp2_with fail
    go_ret
    exact ⟨rfl, Below.refl _ _⟩
  · obtain ⟨ad, hA, _, c0⟩ := ureads_at hr h0
    obtain ⟨ad', hA', _, cl⟩ := ureads_at hr (k := n - 1) (by omega)
    subst hA
    obtain rfl : ad = ad' := by injection hA'
    rw [add_zero_addr] at c0
    have hrise := frises_any (some ad) n c l w hr (by omega)
    have e1 : (n : Int) - 1 = ((n - 1 : Nat) : Int) := by omega
    have hi1 : (0 : Int) ≤ ((n - 1 : Nat) : Int) := by omega
    have hi2 : ((n - 1 : Nat) : Int) < (n : Int) := by omega
    have hn1 : ¬ ((n : Int) = 0) := by omega
    have hn0 : (0 : Int) < n := by omega
    have hwr : IntKind.i64.wrap ((n : Int) - 1) = ((n - 1 : Nat) : Int) := by rw [IntKind.wrap_i64]; omega
    by_cases h2 : nthU l 0 < 2
    · have hg : ¬ (2 : Int) ≤ (nthU l 0 : Int) := by omega
      have E := Lib.hid (inB_first (pages := pages) (by omega) h2)
      clear hr hlen hA' cl hrise e1 h2 hwr
      go_enter Try.func34, Try.ntmps34
      go_wp2_with fail
      go_ret
      exact ⟨by rw [E.out]; rfl, Below.refl _ _⟩
    · have hg : (2 : Int) ≤ (nthU l 0 : Int) := by omega
      by_cases h3 : nthU l (n - 1) < pages
      · have hg3 : (nthU l (n - 1) : Int) < (pages : Int) := by omega
        have E := Lib.hid (inB_asc (pages := pages) (l := l) (by omega) (by omega) (by rw [hlen]; exact h3))
        clear hr hlen hA' h2 h3
        obtain ⟨q, hq⟩ : ∃ q, q = n - 1 := ⟨_, rfl⟩
        rw [← hq] at cl hg3 hi1 hi2 hwr e1
        clear hq
        go_enter Try.func34, Try.ntmps34
        go_wp2_with (go_at_call 54; refine hrise.mono ?_; rintro e w' ⟨rfl, hb⟩)
        go_ret
        exact ⟨by rw [E.out]; first | rfl | simp, hb⟩
      · have hg3 : ¬ (nthU l (n - 1) : Int) < (pages : Int) := by omega
        have E := Lib.hid (inB_last (pages := pages) (l := l) (by omega) (by rw [hlen]; omega))
        clear hr hlen hA' h2 h3 hrise
        obtain ⟨q, hq⟩ : ∃ q, q = n - 1 := ⟨_, rfl⟩
        rw [← hq] at cl hg3 hi1 hi2 hwr e1
        clear hq
        go_enter Try.func34, Try.ntmps34
        go_wp2_with fail
        go_ret
        exact ⟨by rw [E.out]; first | rfl | simp, Below.refl _ _⟩
theorem Al.mk_ {W : World} {lo g b n c : Nat} {A : Option Addr} {D : DataW Unit} {S : AlS} (blk : Blk W g 67 #[.pointer (some ⟨g, 0, none⟩), .slice A n c, .int .u32 S.count, .int .u32 S.most, .map (some b)]) (ho : W.ownsRow lo 27 1 (.slice A n c) n (ucells S.now))
    (hmap : W.ownsMap Try.prog 27 markEl b (S.took.length + S.gave.length) D) (hM : MarksOf D S.took S.gave) (ok : S.ok) (hg : lo ≤ g) (hb : lo ≤ b) : Al W (fun k => lo ≤ k ∧ k < W.heap.size) g S := by
  refine ⟨A, n, c, b, D, blk, ?_, hmap, hM, ok, ⟨hg, blk.lt⟩, ⟨hb, hmap.lt⟩, fun k hk => hk.2⟩
  have hl := own_len ho
  rcases ho.2 with ⟨hv, h0⟩ | ⟨g', cap, cur, hv, hlo, hh, hnc, hcm, hs, ht⟩
  · injection hv with hA hn hc
    subst hA; subst hc
    exact ⟨hl, by omega, .inl ⟨rfl, rfl⟩⟩
  · injection hv with hA hn hc
    subst hA; subst hc
    rw [Nat.mul_one] at hs ht
    have hne : g' ≠ g := Blk.ne_ (t := 27) hh blk (by decide)
    have hnb : g' ≠ b := by
      obtain ⟨es, clock, hb', _⟩ := hmap
      rintro rfl
      rw [hh] at hb'
      cases hb'
    exact ⟨hl, hnc, .inr ⟨g', 0, cur, rfl, ⟨⟨hlo, Blk.lt (t := 27) hh⟩, hne, hnb⟩, hh, by omega, by omega, by rw [List.drop_zero]; exact ht⟩⟩
/-- What New answers, and leaves. -/
def NewPost (l : List Nat) (pages most : Nat) (w : World) (e : Ending) (w' : World) : Prop :=
  Below w.heap.size w w' ∧ ((mayAl l pages most = true ∧ ∃ g, e = .returned (.tuple #[.pointer (some ⟨g, 0, none⟩), .int .i64 0]) ∧ Al w' (fun k => w.heap.size ≤ k ∧ k < w'.heap.size) g (alNew l pages most)) ∨ (mayAl l pages most = false ∧ e = .returned (.tuple #[.pointer none, .int .i64 2])))
theorem mayAl_is (l : List Nat) (pages most : Nat) : mayAl l pages most = (decide (2 ≤ pages) && (decide (pages ≤ most) && (decide (most ≤ 1048576) && inB l pages))) := rfl
theorem NewPost.no {l : List Nat} {pages most : Nat} {w w' : World} (h : mayAl l pages most = false) (hb : Below w.heap.size w w') : NewPost l pages most w (.returned (.tuple #[.pointer none, .int .i64 2])) w' := ⟨hb, .inr ⟨h, rfl⟩⟩
set_option maxRecDepth 100000 in
set_option maxHeartbeats 1600000 in
theorem anew_any {w : World} {A : Option Addr} {n : Nat} (c : Nat) {l : List Nat} (pages most : Nat) (hr : Reads w w.heap.size 1 A n (ucells l)) (hn : n ≤ 1000000) :
    Calls Try.prog 11 #[.slice A n c, .int .u32 pages, .int .u32 most] w (NewPost l pages most w) := by
  have hA : A = none → n = 0 := fun e => by
    rcases Nat.eq_zero_or_pos n with h | h
    · exact h
    · obtain ⟨ad, h1, _⟩ := hr.2 h
      rw [e] at h1
      cases h1
  have hw := within_any c pages hr hn
  by_cases h1 : pages < 2
  · have g1 : (pages : Int) < 2 := by omega
    have E := Lib.hid (show mayAl l pages most = false by rw [mayAl_is, decide_eq_false (by omega), Bool.false_and])
    clear hr hA hw h1
    go_enter Try.func11, Try.ntmps11
    go_wp2_with fail
    go_ret2
    exact NewPost.no E.out (Below.refl _ _)
  have g1 : ¬ (pages : Int) < 2 := by omega
  by_cases h2 : most < pages
  · have g2 : (most : Int) < (pages : Int) := by omega
    have E := Lib.hid (show mayAl l pages most = false by rw [mayAl_is, decide_eq_false (show ¬ pages ≤ most by omega), Bool.false_and, Bool.and_false])
    clear hr hA hw h1 h2
    go_enter Try.func11, Try.ntmps11
    go_wp2_with fail
    go_ret2
    exact NewPost.no E.out (Below.refl _ _)
  have g2 : ¬ (most : Int) < (pages : Int) := by omega
  by_cases h3 : 1048576 < most
  · have g3 : (1048576 : Int) < (most : Int) := by omega
    have E := Lib.hid (show mayAl l pages most = false by rw [mayAl_is, decide_eq_false (show ¬ most ≤ 1048576 by omega), Bool.false_and, Bool.and_false, Bool.and_false])
    clear hr hA hw h1 h2 h3
    go_enter Try.func11, Try.ntmps11
    go_wp2_with fail
    go_ret2
    exact NewPost.no E.out (Below.refl _ _)
  have g3 : ¬ (1048576 : Int) < (most : Int) := by omega
  have em : mayAl l pages most = inB l pages := by rw [mayAl_is, decide_eq_true (by omega), decide_eq_true (by omega), decide_eq_true (by omega)]; simp
  cases hin : inB l pages
  · rw [hin] at hw
    have E := Lib.hid (show mayAl l pages most = false by rw [em, hin])
    clear hr hA h1 h2 h3 em hin
    go_enter Try.func11, Try.ntmps11
    go_wp2_with (go_at_call 34; refine hw.mono ?_; rintro e w' ⟨rfl, hb⟩)
    go_ret2
    exact NewPost.no E.out hb
  · rw [hin] at hw
    have E := Lib.hid (show mayAl l pages most = true by rw [em, hin])
    have HR := Lib.hid hr
    have HA := Lib.hid hA
    have HN := Lib.hid hn
    have hmm := @run_makeMap Try.prog
    clear hr hA h1 h2 h3 em hin hn
    go_enter Try.func11, Try.ntmps11
    go_wp2_with (first
      | (go_at_call 34; refine hw.mono ?_; rintro e w1 ⟨rfl, hb1⟩)
      | (go_at_call 35; refine (cloneU_any c ((HR.out.below hb1).more hb1.size) (by have := HN.out; omega) HA.out).mono ?_; rintro e w2 ⟨A', c', rfl, ho2, hb2⟩))
    go_ret2
    have hs1 := hb1.size
    have hs2 := hb2.size
    have hB : Below w.heap.size w ((w2.alloc (Obj.map #[] 0)).alloc (Obj.cells #[.pointer (some ⟨w2.heap.size + 1, 0, none⟩), .slice A' n c', .int .u32 pages, .int .u32 most, .map (some w2.heap.size)] 67)) :=
      (((hb1.trans (hb2.mono hs1)).alloc (by omega) _).alloc (by simp; omega) _)
    refine ⟨hB, .inl ⟨E.out, w2.heap.size + 1, rfl, ?_⟩⟩
    refine Al.mk_ (b := w2.heap.size) (D := .map []) ?_ ((own_low ho2 hs1).alloc _ |>.alloc _) ((World.ownsMap_made w2 _ _ _).alloc _) MarksOf.nil (alNew_ok E.out) (by omega) (by omega)
    have := Blk.new (w2.alloc (Obj.map #[] 0)) 67 #[.pointer (some ⟨w2.heap.size + 1, 0, none⟩), .slice A' n c', .int .u32 pages, .int .u32 most, .map (some w2.heap.size)]
    rw [show (w2.alloc (Obj.map #[] 0)).heap.size = w2.heap.size + 1 by simp] at this
    exact this
end Go.Proofs.Ytofbglgdmabafaa

