/-
  An allocation made beside another one; the next allocation's numbers. Plain lemmas.
-/
import Derived.Test.YtofbglgdmabafaaJ39
namespace Go.Proofs.Ytofbglgdmabafaa
open Go.RowKit
open Go.Lib hiding intOf
set_option linter.unusedVariables false
set_option linter.unusedSimpArgs false

theorem Held.beside {w0 w w' : World} {g g' : Nat} {S T : AlS} {R : World → (Nat → Prop) → Prop} (h : Held w0 w g S R) (hb : Below w.heap.size w w') (ha : Al w' (fun k => w.heap.size ≤ k ∧ k < w'.heap.size) g' T) : Held w0 w' g' T (AlIn g S) := by
  obtain ⟨F, G, h⟩ := h
  exact ⟨_, F, h.bel.trans (hb.mono h.bel.size), ha, fun k hk => Nat.le_trans h.bel.size hk.1, ⟨F, fun k hk => hk, h.al.new hb⟩, h.fb, fun k hk => Nat.lt_of_lt_of_le (h.al.lt k hk) hb.size, fun k hk hf => by have := h.al.lt k hf; omega⟩
theorem mayAl_mk {l : List Nat} {pages most : Nat} (h1 : 2 ≤ pages) (h2 : pages ≤ most) (h3 : most ≤ 1048576) (h4 : RiseU l) (h5 : ∀ n ∈ l, 2 ≤ n ∧ n < pages) : mayAl l pages most = true := by
  unfold mayAl
  simp only [Bool.and_eq_true, decide_eq_true_eq, List.all_eq_true]
  exact ⟨h1, h2, h3, rise_asc.2 h4, h5⟩
theorem AlS.frees_may {S : AlS} (h : S.ok) : mayAl S.frees S.count S.most = true :=
  mayAl_mk h.c2 h.cm h.mm (AlS.frees_rise h) fun n hn => by
    rcases (AlS.frees_mem h n).1 hn with h1 | h1
    · exact h.i1 n h1
    · exact h.i3 n h1
/-- What the next allocation keeps to: nothing that was taken is free there. -/
structure NextTo (S T : AlS) : Prop where
  free : ∀ m ∈ T.now, m ∉ S.took
  count : S.count ≤ T.count
  ok : T.ok
  most : T.most = S.most
theorem NextTo.start {S : AlS} (h : S.ok) : NextTo S (alNew S.frees S.count S.most) :=
  ⟨fun m hm ht => by
    rcases (AlS.frees_mem h m).1 hm with h1 | h1
    · exact h.d12 m h1 ht
    · exact h.d23 m ht h1, Nat.le_refl _, alNew_ok (AlS.frees_may h), rfl⟩
/-- A page that is taken there was not taken before. -/
theorem NextTo.take {S T : AlS} (hS : S.ok) (h : NextTo S T) : NextTo S T.takes.2.2 ∧ ((T.takes.2.1 = 0 ∧ T.takes.1 ∉ S.took) ∨ (T.takes.2.1 = 9 ∧ T.takes.2.2 = T ∧ T.left = 0)) := by
  have hok := AlS.takes_ok h.ok
  rcases hn : T.now with _ | ⟨n, r⟩
  · rcases Nat.lt_or_ge T.count T.most with hc | hc
    · have e : T.takes = (T.count, 0, { T with took := withU T.took T.count, count := T.count + 1 }) := by unfold AlS.takes; rw [hn]; simp only; rw [if_neg (by omega)]
      rw [e] at hok ⊢
      exact ⟨⟨fun m hm' => absurd hm' (by show m ∉ T.now; rw [hn]; simp), Nat.le_succ_of_le h.count, hok, h.most⟩, .inl ⟨rfl, fun ht => by have h1 := (hS.i2 _ ht).2; have h2 := h.count; show False; have h3 : T.count < S.count := h1; omega⟩⟩
    · have e : T.takes = (0, 9, T) := by unfold AlS.takes; rw [hn]; simp only; rw [if_pos hc]
      rw [e]
      exact ⟨h, .inr ⟨rfl, rfl, by unfold AlS.left; rw [hn]; simp; omega⟩⟩
  · have e : T.takes = (n, 0, { T with now := r, took := withU T.took n }) := by unfold AlS.takes; rw [hn]
    rw [e] at hok ⊢
    exact ⟨⟨fun m hm' => h.free m (by rw [hn]; simp [show m ∈ r from hm']), h.count, hok, h.most⟩, .inl ⟨rfl, h.free n (by rw [hn]; simp)⟩⟩
end Go.Proofs.Ytofbglgdmabafaa

