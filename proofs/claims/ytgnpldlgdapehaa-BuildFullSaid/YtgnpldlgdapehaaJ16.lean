/-
  Texts that the main proof rests on, put together: BuNest, BuRise. No statement is proved here.
-/
import Derived.Test.YtgnpldlgdapehaaJ7
import Derived.Test.YtgnpldlgdapehaaJ2
import Derived.Test.YtgnpldlgdapehaaJ15
set_option linter.unusedVariables false
set_option linter.unusedSimpArgs false
namespace Go.Proofs.Ytgnpldlgdapehaa
open Go.RowKit
open Go.Lib hiding intOf

section
variable {α : Type} {t : TypeId} {k : Nat} {cs : List α → List Value}
def NsAt (t : TypeId) (k : Nat) (cs : List α → List Value) (W : World) (vs : List Value) (P : List (List α)) : Prop :=
 vs.length = P.length ∧ ∀ (i : Nat) v p, vs[i]? = some v → P[i]? = some p → ∃ A c, v = .slice A p.length c ∧ W.ownsRow 0 t k v p.length (cs p)
def NsRead (k : Nat) (cs : List α → List Value) (W : World) (vs : List Value) (P : List (List α)) : Prop :=
 vs.length = P.length ∧ ∀ (i : Nat) v p, vs[i]? = some v → P[i]? = some p → ∃ A c, v = .slice A p.length c ∧ Reads W W.heap.size k A p.length (cs p) ∧ p.length ≤ c
theorem NsAt.nil (W : World) : NsAt t k cs W [] [] := ⟨rfl, fun i v l h => by cases h⟩
theorem NsAt.grown {W W' : World} {row : Option Nat} {vs : List Value} {P : List (List α)} (h : NsAt t k cs W vs P) (hg : W.grownBy W' row) (hr : ∀ r, row = some r → ∀ c fz, W.heap[r]? ≠ some (.cells c t fz)) : NsAt t k cs W' vs P := by
 refine ⟨h.1, fun i v l h1 h2 => ?_⟩
 obtain ⟨A, c, rfl, h3⟩ := h.2 i v l h1 h2
 refine ⟨A, c, rfl, h3.kept hg ?_⟩
 rcases h3.2 with ⟨h0, _⟩ | ⟨g', cap, cur, hv, _, hgg, _⟩
 ·rw [h0]; exact .inl rfl
 ·rw [hv]
  exact .inr fun e => hr g' e.symm _ _ hgg
theorem NsAt.below {W W' : World} {vs : List Value} {P : List (List α)} (h : NsAt t k cs W vs P) (hb : Below W.heap.size W W') : NsAt t k cs W' vs P := h.grown (grown_of_below hb) (by simp)
theorem NsAt.other {W W' : World} {base size n : Nat} {e : TypeId} {v : Value} {xs : List Value} {vs : List Value} {P : List (List α)} (h : NsAt t k cs W vs P) (ho : W.ownsRow base e size v n xs) (hne : e ≠ t) (hg : W.grownBy W' v.ownBlock) : NsAt t k cs W' vs P := by
 refine h.grown hg fun r hr c fz he => ?_
 rcases ho.2 with ⟨rfl, _⟩ | ⟨g', cap, cur, rfl, _, hh, _⟩
 ·simp [Value.ownBlock] at hr
 ·have : g' = r := by simpa [Value.ownBlock] using hr
  subst this
  rw [hh] at he
  injection he with he
  injection he with _ he
  exact hne he
theorem NsAt.snoc {W : World} {vs : List Value} {P : List (List α)} {A : Option Addr} {c : Nat} {p : List α} (h : NsAt t k cs W vs P) (hr : W.ownsRow 0 t k (.slice A p.length c) p.length (cs p)) : NsAt t k cs W (vs ++ [.slice A p.length c]) (P ++ [p]) := by
 refine ⟨by simp [h.1], fun i v l' h1 h2 => ?_⟩
 by_cases hi : i < vs.length
 ·rw [List.getElem?_append_left hi] at h1
  rw [List.getElem?_append_left (by rw [← h.1]; exact hi)] at h2
  exact h.2 i v l' h1 h2
 ·rw [List.getElem?_append_right (by omega)] at h1
  rw [List.getElem?_append_right (by rw [← h.1]; omega)] at h2
  have e1 : i - vs.length = 0 := by
   rcases Nat.eq_zero_or_pos (i - vs.length) with h0 | h0
   ·exact h0
   ·rw [List.getElem?_eq_none (by simp; omega)] at h1; cases h1
  rw [e1] at h1
  rw [show i - P.length = 0 by rw [← h.1]; exact e1] at h2
  injection h1 with h1
  injection h2 with h2
  subst h1
  subst h2
  exact ⟨A, c, rfl, hr⟩
theorem NsAt.read {W : World} {vs : List Value} {P : List (List α)} (h : NsAt t k cs W vs P) : NsRead k cs W vs P := ⟨h.1, fun i v l h1 h2 => by
 obtain ⟨A, c, rfl, h3⟩ := h.2 i v l h1 h2
 obtain ⟨_, _, hv, hc, _⟩ := own_form h3
 cases hv
 exact ⟨A, c, rfl, Reads.of_own h3, hc⟩⟩
theorem NsRead.below {W W' : World} {vs : List Value} {P : List (List α)} (h : NsRead k cs W vs P) (hb : Below W.heap.size W W') : NsRead k cs W' vs P := ⟨h.1, fun i v l h1 h2 => by
 obtain ⟨A, c, rfl, h3, h4⟩ := h.2 i v l h1 h2
 exact ⟨A, c, rfl, (h3.below hb).more hb.size, h4⟩⟩
theorem NsRead.at_ {W : World} {B n i : Nat} {A : Option Addr} {vs : List Value} {P : List (List α)} (h : NsRead k cs W vs P) (hr : Reads W B 1 A n vs) (hi : i < n) :
  ∃ ad A' c p, A = some ad ∧ ad.block < B ∧ P[i]? = some p ∧ W.cell? (ad.add i) = some (.slice A' p.length c) ∧ Reads W W.heap.size k A' p.length (cs p) ∧ p.length ≤ c := by
 obtain ⟨ad, u, ha, hb, hu, hc⟩ := hr.at_ hi
 have hP : i < P.length := by rw [← h.1]; exact (List.getElem?_eq_some_iff.1 hu).1
 obtain ⟨A', c, rfl, h3, h4⟩ := h.2 i u P[i] hu (List.getElem?_eq_getElem hP)
 exact ⟨ad, A', c, P[i], ha, hb, List.getElem?_eq_getElem hP, hc, h3, h4⟩
theorem NsRead.len {W : World} {B n : Nat} {A : Option Addr} {vs : List Value} {P : List (List α)} (h : NsRead k cs W vs P) (hr : Reads W B 1 A n vs) : P.length = n := by
 have := hr.1
 rw [h.1] at this
 omega
end
theorem prefix_range {n x : Nat} {pre : List Nat} (h : pre ++ [x] <+: List.range n) : x < n ∧ x = pre.length := by
 obtain ⟨t, ht⟩ := h
 have h1 : (List.range n)[pre.length]? = some x := by rw [← ht, List.append_assoc, List.getElem?_append_right (Nat.le_refl _)]; simp
 obtain ⟨h2, h3⟩ := List.getElem?_eq_some_iff.1 h1
 rw [List.getElem_range] at h3
 rw [List.length_range] at h2
 omega
def adjB (ks : List ByteArray) (i : Nat) : Bool := decide (i = 0) || match ks[i - 1]?, ks[i]? with | some a, some b => Op.bytesLess a.toList b.toList | _, _ => true
def risesK (ks : List ByteArray) : Bool := (List.range ks.length).all (adjB ks)
theorem risesK_no {ks : List ByteArray} {k : Nat} (hk : k < ks.length) (h : adjB ks k = false) : risesK ks = false := by
 rw [Bool.eq_false_iff]
 intro ha
 rw [risesK, List.all_eq_true] at ha
 rw [ha k (List.mem_range.2 hk)] at h
 cases h
theorem risesK_yes {ks : List ByteArray} (h : ∀ j, j < ks.length → adjB ks j = true) : risesK ks = true := by
 rw [risesK, List.all_eq_true]
 exact fun j hj => h j (List.mem_range.1 hj)
theorem adjB_of {ks : List ByteArray} {k : Nat} {a b : ByteArray} (h0 : 0 < k) (ha : ks[k - 1]? = some a) (hb : ks[k]? = some b) : adjB ks k = Op.bytesLess a.toList b.toList := by
 unfold adjB
 rw [ha, hb, decide_eq_false (by omega)]
 rfl
end Go.Proofs.Ytgnpldlgdapehaa

namespace Go.Proofs.Ytgnpldlgdapehaa
open Go.RowKit

theorem risesK_seg {ks : List ByteArray} (h : risesK ks = true) (a b : Nat) : risesK ((ks.drop a).take b) = true := by
 rw [risesK, List.all_eq_true] at h
 refine risesK_yes fun j hj => ?_
 rw [List.length_take, List.length_drop] at hj
 rcases Nat.eq_zero_or_pos j with h0 | h0
 ·subst h0; simp [adjB]
 ·have h1 := h (a + j) (List.mem_range.2 (by omega))
  unfold adjB at h1 ⊢
  rw [List.getElem?_take, if_pos (by omega), List.getElem?_take, if_pos (by omega), List.getElem?_drop, List.getElem?_drop, show a + (j - 1) = a + j - 1 by omega, decide_eq_false (by omega : ¬ j = 0)]
  rw [decide_eq_false (by omega : ¬ a + j = 0)] at h1
  exact h1
end Go.Proofs.Ytgnpldlgdapehaa

