/-
  Taking all pages, and giving them back: the states of an allocation on the way, as plain data; a row of the walk's own that grows beside an allocation. Plain lemmas.
-/
import Derived.Test.YtofbglgdmabafaaJ38
namespace Go.Proofs.Ytofbglgdmabafaa
open Go.RowKit
open Go.Lib hiding intOf
set_option linter.unusedVariables false
set_option linter.unusedSimpArgs false

/-- The i-th page that is taken where N are free of C. -/
def gotAt (N : List Nat) (C i : Nat) : Nat := if i < N.length then nthU N i else C + (i - N.length)
def gotL (N : List Nat) (C : Nat) : Nat → List Nat
  | 0 => []
  | i + 1 => gotL N C i ++ [gotAt N C i]
def takeSt (N : List Nat) (C m i : Nat) : AlS := ⟨N.drop i, gotL N C i, [], C + (i - N.length), C + m⟩
def giveSt (N : List Nat) (C m i : Nat) : AlS := ⟨(gotL N C (N.length + m)).take i, (gotL N C (N.length + m)).drop i, [], C + m, C + m⟩
theorem gotL_len (N : List Nat) (C i : Nat) : (gotL N C i).length = i := by
  induction i with
  | zero => rfl
  | succ i ih => simp [gotL, ih]
theorem gotAt_lt {N : List Nat} {C : Nat} (hN : RiseU N) (hC : ∀ n ∈ N, n < C) {i j : Nat} (h : i < j) : gotAt N C i < gotAt N C j := by
  unfold gotAt
  by_cases hj : j < N.length
  · rw [if_pos (by omega), if_pos hj]
    exact rise_nth hN h hj
  · rw [if_neg hj]
    split
    · rename_i hi
      have := hC _ (mem_nth hi)
      omega
    · omega
theorem gotL_mem {N : List Nat} {C : Nat} : ∀ {i n : Nat}, n ∈ gotL N C i → ∃ j, j < i ∧ n = gotAt N C j
  | 0, n, h => by simp [gotL] at h
  | i + 1, n, h => by
    rcases List.mem_append.1 h with h | h
    · obtain ⟨j, hj, e⟩ := gotL_mem h
      exact ⟨j, by omega, e⟩
    · exact ⟨i, by omega, by simpa using h⟩
theorem gotL_rise {N : List Nat} {C : Nat} (hN : RiseU N) (hC : ∀ n ∈ N, n < C) : ∀ i, RiseU (gotL N C i)
  | 0 => List.Pairwise.nil
  | i + 1 => List.pairwise_append.2 ⟨gotL_rise hN hC i, by simp, fun a ha b hb => by
    obtain ⟨j, hj, rfl⟩ := gotL_mem ha
    simp at hb
    subst hb
    exact gotAt_lt hN hC hj⟩
theorem gotL_nth {N : List Nat} {C : Nat} : ∀ {n i : Nat}, i < n → nthU (gotL N C n) i = gotAt N C i
  | 0, i, h => by omega
  | n + 1, i, h => by
    unfold gotL nthU
    rw [List.getElem?_append, gotL_len]
    by_cases hi : i < n
    · rw [if_pos hi]
      exact gotL_nth hi
    · obtain rfl : i = n := by omega
      rw [if_neg (Nat.lt_irrefl _)]
      simp
theorem takeSt_take {N : List Nat} {C m i : Nat} (hN : RiseU N) (hC : ∀ n ∈ N, n < C) (h : i < N.length + m) : (takeSt N C m i).takes = (gotAt N C i, 0, takeSt N C m (i + 1)) := by
  have hw : withU (gotL N C i) (gotAt N C i) = gotL N C (i + 1) := withU_end fun n hn => by
    obtain ⟨j, hj, rfl⟩ := gotL_mem hn
    exact gotAt_lt hN hC hj
  by_cases hi : i < N.length
  · have hd : N.drop i = nthU N i :: N.drop (i + 1) := by
      rw [List.drop_eq_getElem_cons hi]
      unfold nthU
      rw [List.getElem?_eq_getElem hi]
      rfl
    have hg : gotAt N C i = nthU N i := by unfold gotAt; rw [if_pos hi]
    rw [hg] at hw ⊢
    unfold AlS.takes takeSt
    simp only [hd]
    rw [hw, show i - N.length = 0 by omega, show i + 1 - N.length = 0 by omega]
  · have hd : N.drop i = [] := List.drop_of_length_le (by omega)
    have hd2 : N.drop (i + 1) = [] := List.drop_of_length_le (by omega)
    have hg : gotAt N C i = C + (i - N.length) := by unfold gotAt; rw [if_neg hi]
    rw [hg] at hw ⊢
    unfold AlS.takes takeSt
    simp only [hd, hd2]
    rw [if_neg (by omega), hw, show C + (i - N.length) + 1 = C + (i + 1 - N.length) by omega]
theorem takeSt_full {N : List Nat} {C m : Nat} : (takeSt N C m (N.length + m)).takes = (0, 9, takeSt N C m (N.length + m)) := by
  have hd : N.drop (N.length + m) = [] := List.drop_of_length_le (by omega)
  unfold AlS.takes takeSt
  simp only [hd]
  rw [if_pos (by omega)]
theorem takeSt_left (N : List Nat) (C m i : Nat) (h : i ≤ N.length + m) : (takeSt N C m i).left = N.length + m - i := by
  unfold AlS.left takeSt
  simp only [List.length_drop]
  omega
theorem giveSt_zero (N : List Nat) (C m : Nat) : giveSt N C m 0 = takeSt N C m (N.length + m) := by
  have hd : N.drop (N.length + m) = [] := List.drop_of_length_le (by omega)
  unfold giveSt takeSt
  rw [hd, show C + (N.length + m - N.length) = C + m by omega]
  rfl
theorem giveSt_give {N : List Nat} {C m i : Nat} (hN : RiseU N) (hC : ∀ n ∈ N, 2 ≤ n ∧ n < C) (hC2 : 2 ≤ C) (h : i < N.length + m) : (giveSt N C m i).gives (gotAt N C i) = (0, giveSt N C m (i + 1)) := by
  have hC1 : ∀ n ∈ N, n < C := fun n hn => (hC n hn).2
  have hr := gotL_rise hN hC1 (N.length + m)
  have hl := gotL_len N C (N.length + m)
  have hn := gotL_nth (N := N) (C := C) h
  obtain ⟨L, hL⟩ : ∃ L, L = gotL N C (N.length + m) := ⟨_, rfl⟩
  rw [← hL] at hr hl hn
  have hd : L.drop i = gotAt N C i :: L.drop (i + 1) := by
    rw [List.drop_eq_getElem_cons (by omega), ← hn]
    unfold nthU
    rw [List.getElem?_eq_getElem (by omega)]
    rfl
  have ht : L.take (i + 1) = L.take i ++ [gotAt N C i] := by
    rw [List.take_succ_eq_append_getElem (by omega), ← hn]
    unfold nthU
    rw [List.getElem?_eq_getElem (by omega)]
    rfl
  have hlt : ∀ a ∈ L.take i, a < gotAt N C i := fun a ha => by
    have := List.pairwise_append.1 (show List.Pairwise (· < ·) (L.take i ++ L.drop i) by rw [List.take_append_drop]; exact hr)
    exact this.2.2 a ha _ (by rw [hd]; simp)
  have hw : withU (L.take i) (gotAt N C i) = L.take (i + 1) := by rw [withU_end hlt, ht]
  have hx : lessU1 (L.drop i) (gotAt N C i) = L.drop (i + 1) := by rw [hd, lessU1_head]
  have hlo : 2 ≤ gotAt N C i ∧ gotAt N C i < C + m := by
    unfold gotAt
    split
    · rename_i hi
      have := hC _ (mem_nth hi)
      omega
    · omega
  unfold AlS.gives giveSt
  rw [← hL]
  simp only
  rw [if_neg (by omega), if_neg, if_pos, hw, hx]
  · rw [inU_iff, hd]; simp
  · rintro (h1 | h1)
    · have := hlt _ (inU_iff.1 h1); omega
    · rw [inU_iff] at h1; simp at h1
/-- A row of the walk's own beside an allocation. -/
def OwnIn (base : Nat) (A : Option Addr) (n c : Nat) (l : List Nat) (w : World) (G : Nat → Prop) : Prop := w.ownsRow base 27 1 (.slice A n c) n (ucells l) ∧ ∀ k, (Value.slice A n c).ownBlock = some k → G k
theorem rest_own (base : Nat) (A : Option Addr) (n c : Nat) (l : List Nat) : Rest (OwnIn base A n c l) :=
  ⟨fun w w' G F ⟨ho, hg⟩ hk hd _ => ⟨hk.own ho fun k e hf => hd k hf (hg k e), hg⟩, fun w G G' ⟨ho, hg⟩ hG => ⟨ho, fun k e => hG k (hg k e)⟩⟩
theorem Held.madeRow {w0 w w' : World} {g : Nat} {S : AlS} {A : Option Addr} {n c : Nat} {l : List Nat} (hb0 : Below w0.heap.size w0 w) (ho : w.ownsRow w0.heap.size 27 1 (.slice A n c) n (ucells l)) (hb : Below w.heap.size w w') (ha : Al w' (fun k => w.heap.size ≤ k ∧ k < w'.heap.size) g S) :
    Held w0 w' g S (OwnIn w0.heap.size A n c l) :=
  ⟨_, fun k => w0.heap.size ≤ k ∧ k < w.heap.size, hb0.trans (hb.mono hb0.size), ha, fun k hk => Nat.le_trans hb0.size hk.1, ⟨(Kept.of_new (F := fun _ => False) hb).own ho fun k e h => h, fun k e => ho.lt k e⟩, fun k hk => hk.1, fun k hk => Nat.lt_of_lt_of_le hk.2 hb.size, fun k h1 h2 => by have := h1.1; have := h2.2; omega⟩
/-- The row has grown. -/
theorem Held.grows {w0 w w1 w' : World} {g : Nat} {S : AlS} {R : World → (Nat → Prop) → Prop} {A A' : Option Addr} {n c n' c' : Nat} {l l' : List Nat} (hR : ∀ (G1 G2 : Nat → Prop) (w w' : World), R w G1 → Kept (fun k => (Value.slice A n c).ownBlock = some k) w w' → (∀ k, G1 k → G2 k) → R w' G2)
    (h : Held w0 w g S (fun w G => R w G ∧ OwnIn w0.heap.size A n c l w G)) (hb : Below w.heap.size w w1) (hg : w1.grownBy w' (Value.slice A n c).ownBlock) (ho : w'.ownsRow w0.heap.size 27 1 (.slice A' n' c') n' (ucells l'))
    (hat : (Value.slice A' n' c').ownBlock = (Value.slice A n c).ownBlock ∨ (Value.slice A' n' c').ownBlock = some w1.heap.size) : Held w0 w' g S (fun w G => R w G ∧ OwnIn w0.heap.size A' n' c' l' w G) := by
  refine h.other fun G ⟨hr, hown, hog⟩ hl hgb => ?_
  have hk1 : Kept (fun k => (Value.slice A n c).ownBlock = some k) w w' := (Kept.of_new hb).trans (Kept.of_grown hg fun k e => e)
  refine ⟨hk1.mono fun k e => hog k e, fun k => G k ∨ (w.heap.size ≤ k ∧ k < w'.heap.size), ⟨hR G _ w w' hr hk1 fun k hk => .inl hk, ho, fun k e => ?_⟩, fun k hk => hk⟩
  rcases hat with h1 | h1
  · exact .inl (hog k (h1 ▸ e))
  · rw [h1] at e
    injection e with e
    subst e
    exact .inr ⟨hb.size, (ho.lt _ h1).2⟩
end Go.Proofs.Ytofbglgdmabafaa

