/-
  What has become of each page, as a row of numbers beside an allocation. Plain lemmas.
-/
import Derived.Test.YtofbglgdmabafaaJ37
namespace Go.Proofs.Ytofbglgdmabafaa
open Go.RowKit
open Go.Lib hiding intOf
set_option linter.unusedVariables false
set_option linter.unusedSimpArgs false

def codeS (S : AlS) (k : Nat) : Nat := if inU S.now k then 1 else if inU S.took k then 2 else if inU S.gave k then 3 else 0
def hasC (S : AlS) : Array Value := ((List.range 60).map fun k => Value.int .i64 (codeS S k : Int)).toArray
theorem hasC_size (S : AlS) : (hasC S).size = 60 := by simp [hasC]
theorem hasC_at (S : AlS) {k : Nat} (h : k < 60) : (hasC S)[k]? = some (.int .i64 (codeS S k : Int)) := by
  unfold hasC
  rw [List.getElem?_toArray, List.getElem?_map, List.getElem?_range h]
  rfl
theorem hasC_set {S S' : AlS} {q v : Nat} (hq : q < 60) (hv : codeS S' q = v) (ho : ∀ k, k ≠ q → codeS S' k = codeS S k) : (hasC S).setIfInBounds q (.int .i64 (v : Int)) = hasC S' := by
  apply Array.ext_getElem?
  intro i
  rw [Array.getElem?_setIfInBounds]
  by_cases h : q = i
  · subst h
    rw [if_pos rfl, if_pos (by rw [hasC_size]; exact hq), hasC_at S' hq, hv]
  · rw [if_neg h]
    by_cases h60 : i < 60
    · rw [hasC_at S h60, hasC_at S' h60, ho i (fun e => h e.symm)]
    · rw [Array.getElem?_eq_none (by rw [hasC_size]; omega), Array.getElem?_eq_none (by rw [hasC_size]; omega)]
theorem code_far {S : AlS} (h : S.ok) {q : Nat} (hq : q < 2 ∨ S.count ≤ q) : codeS S q = 0 := by
  have a : inU S.now q = false := inU_no.2 fun hm => by have := h.i1 q hm; omega
  have b : inU S.took q = false := inU_no.2 fun hm => by have := h.i2 q hm; omega
  have c : inU S.gave q = false := inU_no.2 fun hm => by have := h.i3 q hm; omega
  unfold codeS
  rw [a, b, c]
  rfl
theorem code_one {S : AlS} {q : Nat} : codeS S q = 1 ↔ q ∈ S.now := by
  rw [← inU_iff]
  unfold codeS
  cases inU S.now q <;> cases inU S.took q <;> cases inU S.gave q <;> simp
theorem code_two {S : AlS} (h : S.ok) {q : Nat} : codeS S q = 2 ↔ q ∈ S.took := by
  have hd := h.d12 q
  rw [← inU_iff, ← inU_iff] at hd
  rw [← inU_iff]
  unfold codeS
  cases h1 : inU S.now q <;> cases h2 : inU S.took q <;> cases h3 : inU S.gave q <;> simp_all
theorem code_three {S : AlS} (h : S.ok) {q : Nat} : codeS S q = 3 ↔ q ∈ S.gave := by
  have hd := h.d13 q
  have he := h.d23 q
  rw [← inU_iff, ← inU_iff] at hd he
  rw [← inU_iff]
  unfold codeS
  cases h1 : inU S.now q <;> cases h2 : inU S.took q <;> cases h3 : inU S.gave q <;> simp_all
theorem code_head {S : AlS} (h : S.ok) {x : Nat} {r : List Nat} (hn : S.now = x :: r) : codeS { S with now := r, took := withU S.took x } x = 2 ∧ ∀ k, k ≠ x → codeS { S with now := r, took := withU S.took x } k = codeS S k := by
  have hr := h.r1
  rw [hn] at hr
  have hx : inU r x = false := inU_no.2 fun hm => by have := (List.pairwise_cons.1 hr).1 x hm; omega
  refine ⟨?_, fun k hk => ?_⟩
  · unfold codeS
    simp only [hx, inU_with]
    simp
  · have e : inU S.now k = inU r k := by
      rw [hn, Bool.eq_iff_iff, inU_iff, inU_iff, List.mem_cons]
      simp [hk]
    unfold codeS
    simp only [inU_with, e]
    simp [hk]
theorem code_more {S : AlS} (h : S.ok) (hn : S.now = []) : codeS { S with took := withU S.took S.count, count := S.count + 1 } S.count = 2 ∧ ∀ k, k ≠ S.count → codeS { S with took := withU S.took S.count, count := S.count + 1 } k = codeS S k := by
  refine ⟨?_, fun k hk => ?_⟩
  · unfold codeS
    simp only [hn, inU_with]
    simp [inU]
  · unfold codeS
    simp only [inU_with]
    simp [hk]
theorem code_back {S : AlS} (h : S.ok) {q : Nat} (hq : q ∈ S.took) : codeS { S with took := lessU1 S.took q, now := withU S.now q } q = 1 ∧ ∀ k, k ≠ q → codeS { S with took := lessU1 S.took q, now := withU S.now q } k = codeS S k := by
  refine ⟨?_, fun k hk => ?_⟩
  · unfold codeS
    simp only [inU_with]
    simp
  · unfold codeS
    simp only [inU_with, inU_less h.r2 hq]
    simp [hk]
theorem code_gave {S : AlS} {q : Nat} (h1 : q ∉ S.now) (h2 : q ∉ S.took) : codeS { S with gave := withU S.gave q } q = 3 ∧ ∀ k, k ≠ q → codeS { S with gave := withU S.gave q } k = codeS S k := by
  have a := inU_no.2 h1
  have b := inU_no.2 h2
  refine ⟨?_, fun k hk => ?_⟩
  · unfold codeS
    simp only [inU_with, a, b]
    simp
  · unfold codeS
    simp only [inU_with]
    simp [hk]
/-- The row of codes beside an allocation. -/
def HasIn (hb : Nat) (cs : Array Value) (w : World) (G : Nat → Prop) : Prop := Blk w hb 3 cs ∧ G hb
theorem rest_has (hb : Nat) (cs : Array Value) : Rest (HasIn hb cs) :=
  ⟨fun w w' G F ⟨h, hg⟩ hk hd _ => ⟨hk.blk h fun hf => hd _ hf hg, hg⟩, fun w G G' ⟨h, hg⟩ hG => ⟨h, hG _ hg⟩⟩
theorem Held.has {w0 w : World} {g hb : Nat} {S : AlS} {cs : Array Value} {R : World → (Nat → Prop) → Prop} (h : Held w0 w g S R) (hR : ∀ w G, R w G → HasIn hb cs w G) : Blk w hb 3 cs := by
  obtain ⟨G, hg⟩ := h.rest
  exact (hR w G hg).1
theorem Held.stores {w0 w : World} {g hb : Nat} {S : AlS} {cs : Array Value} (h : Held w0 w g S (HasIn hb cs)) (i : Nat) (v : Value) : Held w0 (w.setCell ⟨hb, i, none⟩ v) g S (HasIn hb (cs.setIfInBounds i v)) := by
  refine h.other fun G ⟨hbk, hg⟩ hl hgb => ⟨(Kept.refl G w).setCell (p := ⟨hb, i, none⟩) (.inl hg) v, G, ⟨hbk.set_ i v, hg⟩, fun k hk => .inl hk⟩
theorem Held.madeHas {w0 w w' : World} {g hb : Nat} {S : AlS} {cs : Array Value} (hb0 : Below w0.heap.size w0 w) (hh : Blk w hb 3 cs) (hlo : w0.heap.size ≤ hb) (hb1 : Below w.heap.size w w') (ha : Al w' (fun k => w.heap.size ≤ k ∧ k < w'.heap.size) g S) : Held w0 w' g S (HasIn hb cs) :=
  ⟨_, fun k => w0.heap.size ≤ k ∧ k < w.heap.size, hb0.trans (hb1.mono hb0.size), ha, fun k hk => Nat.le_trans hb0.size hk.1, ⟨hh.below hb1 hh.lt, hlo, hh.lt⟩, fun k hk => hk.1, fun k hk => Nat.lt_of_lt_of_le hk.2 hb1.size, fun k h1 h2 => by have := h1.1; have := h2.2; omega⟩
theorem count_one {l : List Nat} (h : RiseU l) (k : Nat) : l.count k = if inU l k then 1 else 0 := by
  have hn := rise_nodup h
  cases hk : inU l k
  · rw [List.count_eq_zero_of_not_mem (inU_no.1 hk)]
    rfl
  · have := List.count_pos_iff.2 (inU_iff.1 hk)
    have := List.nodup_iff_count.1 hn k
    simp
    omega
theorem count_step (l : List Nat) (k i : Nat) (h : i < l.length) : (l.take (i + 1)).count k = (l.take i).count k + if nthU l i = k then 1 else 0 := by
  rw [List.take_succ_eq_append_getElem h, List.count_append]
  unfold nthU
  rw [List.getElem?_eq_getElem h]
  simp [List.count_singleton]
end Go.Proofs.Ytofbglgdmabafaa

