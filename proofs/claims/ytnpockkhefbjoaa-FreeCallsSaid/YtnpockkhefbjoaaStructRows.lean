/-
  Words for slices of structs: rows of so many cells each, read as a list; plain lemmas. No statement is proved here.
-/
import Derived.Test.YtnpockkhefbjoaaWords
namespace Go.Proofs.Ytnpockkhefbjoaa
open Go.RowKit
set_option linter.unusedVariables false
set_option linter.unusedSimpArgs false

/-- Rows of the same number of cells, one after the other. -/
def rowsOf {α : Type} (f : α → List Value) (l : List α) : List Value := l.flatMap f
section
variable {α : Type} {f : α → List Value} {k : Nat}
theorem rowsOf_length (hf : ∀ x, (f x).length = k) : ∀ l : List α, (rowsOf f l).length = l.length * k
  | [] => by simp [rowsOf]
  | x :: l => by
    have ih := rowsOf_length hf l
    simp only [rowsOf, List.flatMap_cons, List.length_append, hf x, List.length_cons] at ih ⊢
    rw [ih, Nat.add_mul, Nat.one_mul, Nat.add_comm]
theorem rowsOf_append (l m : List α) : rowsOf f (l ++ m) = rowsOf f l ++ rowsOf f m := by simp [rowsOf]
theorem rowsOf_get (hf : ∀ x, (f x).length = k) : ∀ (l : List α) (i j : Nat) (x : α), l[i]? = some x → j < k → (rowsOf f l)[i * k + j]? = (f x)[j]?
  | [], i, j, x, h, _ => by simp at h
  | y :: l, 0, j, x, h, hj => by
    simp at h
    subst h
    simp only [rowsOf, List.flatMap_cons, Nat.zero_mul, Nat.zero_add]
    rw [List.getElem?_append_left (by rw [hf]; exact hj)]
  | y :: l, i + 1, j, x, h, hj => by
    have ih := rowsOf_get hf l i j x (by simpa using h) hj
    simp only [rowsOf, List.flatMap_cons] at ih ⊢
    rw [List.getElem?_append_right (by rw [hf, Nat.add_mul]; omega), hf, show (i + 1) * k + j - k = i * k + j by rw [Nat.add_mul]; omega]
    exact ih
theorem rowsOf_drop (hf : ∀ x, (f x).length = k) : ∀ (l : List α) (n : Nat), (rowsOf f l).drop (n * k) = rowsOf f (l.drop n)
  | l, 0 => by simp
  | [], n + 1 => by simp [rowsOf]
  | y :: l, n + 1 => by
    have ih := rowsOf_drop hf l n
    simp only [rowsOf, List.flatMap_cons, List.drop_succ_cons] at ih ⊢
    rw [Nat.add_mul, Nat.one_mul, Nat.add_comm (n * k) k, ← List.drop_drop, List.drop_left' (hf y)]
    exact ih
theorem rowsOf_take (hf : ∀ x, (f x).length = k) : ∀ (l : List α) (n : Nat), (rowsOf f l).take (n * k) = rowsOf f (l.take n)
  | l, 0 => by simp [rowsOf]
  | [], n + 1 => by simp [rowsOf]
  | y :: l, n + 1 => by
    have ih := rowsOf_take hf l n
    simp only [rowsOf, List.flatMap_cons, List.take_succ_cons] at ih ⊢
    rw [Nat.add_mul, Nat.one_mul, Nat.add_comm (n * k) k, List.take_append, hf y, List.take_of_length_le (by rw [hf y]; omega), show k + n * k - k = n * k by omega, ih]
/-- An element of such a slice. -/
theorem row_at (hf : ∀ x, (f x).length = k) (hk : 0 < k) {w : World} {B n i : Nat} {A : Option Addr} {l : List α} (h : Reads w B k A n (rowsOf f l)) (hi : i < n) :
    ∃ ad x, A = some ad ∧ ad.block < B ∧ l[i]? = some x ∧ ∀ j u, (f x)[j]? = some u → w.cell? ((ad.add (i * k)).add j) = some u := by
  obtain ⟨ad, hA, hb, hc⟩ := h.2 (by omega)
  have hl : l.length = n := by
    have := h.1
    rw [rowsOf_length hf] at this
    exact Nat.eq_of_mul_eq_mul_right hk this
  have hi' : i < l.length := by omega
  refine ⟨ad, l[i], hA, hb, List.getElem?_eq_getElem hi', fun j u hu => ?_⟩
  have hj : j < k := by rw [← hf l[i]]; exact (List.getElem?_eq_some_iff.1 hu).1
  rw [add_add]
  exact hc _ u (by rw [rowsOf_get hf l i j l[i] (List.getElem?_eq_getElem hi') hj]; exact hu)
theorem rows_len (hf : ∀ x, (f x).length = k) (hk : 0 < k) {w : World} {B n : Nat} {A : Option Addr} {l : List α} (h : Reads w B k A n (rowsOf f l)) : l.length = n := by
  have := h.1
  rw [rowsOf_length hf] at this
  exact Nat.eq_of_mul_eq_mul_right hk this
/-- The first so many elements. -/
theorem rows_take (hf : ∀ x, (f x).length = k) {w : World} {B n m : Nat} {A : Option Addr} {l : List α} (h : Reads w B k A n (rowsOf f l)) (hm : m ≤ n) : Reads w B k A m (rowsOf f (l.take m)) := by
  rw [← rowsOf_take hf]
  have hnm : m * k ≤ n * k := Nat.mul_le_mul_right k hm
  refine ⟨by rw [List.length_take, h.1]; omega, fun h0 => ?_⟩
  obtain ⟨ad, hA, hb, hc⟩ := h.2 (by omega)
  refine ⟨ad, hA, hb, fun j u hu => hc j u ?_⟩
  rw [List.getElem?_take] at hu
  split at hu
  · exact hu
  · cases hu
/-- The elements from one on. -/
theorem rows_drop (hf : ∀ x, (f x).length = k) {w : World} {B n m cap : Nat} {A : Option Addr} {l : List α} (h : Reads w B k A n (rowsOf f l)) (hm : m ≤ n) (hc : n ≤ cap) : Reads w B k (if cap = m then A else A.map (·.add (m * k))) (n - m) (rowsOf f (l.drop m)) := by
  rw [← rowsOf_drop hf]
  exact h.cut hm hc
end
/-- An append of a slice that reads as a list, whatever its address, at a step of a region that draws its order. -/
theorem step_append_any {P : Program} {w : World} {ops : Array Oper} {o : Oper} {a : Act} {K : Act → World → Prop} {Q : Exit → Act → World → Prop} {E : Prop} (hgd : o.guard = none) (s x : Operand) (t : TypeId)
    (ho : o.op = .call { callee := .builtin .append, args := #[s, x], argTypes := #[t, t] })
    (base : Nat) (e : TypeId) (i : TypeInfo) (z : Value) (size bytes : Nat) (ht : P.underlying t = some (.slice e)) (hi : P.info? e = some i) (hz : i.zero = some z)
    (hsize : i.size = size) (hby : i.bytes = bytes) (hzs : z.cells.size = size) (hsz : 0 < size)
    (v : Value) (n : Nat) (xs : List Value) (hs : a.eval s = v) (hown : w.ownsRow base e size v n xs)
    (B : Nat) (A : Option Addr) (m c : Nat) (news : List Value) (hx : a.eval x = .slice A m c) (hr : Reads w B size A m news) (h1 : ∀ u ∈ news, u.oneCell' = true)
    (h63 : n + m ≤ maxLen) (hbytes : (n + m) * bytes ≤ 140737488355328) (hbase : base ≤ w.heap.size)
    (h : ∀ v' w', w'.ownsRow base e size v' (n + m) (xs ++ news) → w.grownBy w' v.ownBlock → (v'.ownBlock = v.ownBlock ∨ v'.ownBlock = some w.heap.size) → K (a.put o.dst v') w') :
    if Region.wanted o (yielded ops a.tmps) = true then Oper.wp P o a w K Q else E := by
  have hw : Region.wanted o (yielded ops a.tmps) = true := by simp [Region.wanted, hgd]
  rw [if_pos hw]
  exact wp_append_any w s x t ho base e i z size bytes ht hi hz hsize hby hzs hsz v n xs hs hown B A m c news hx hr h1 h63 hbytes hbase h
theorem cells3 {w : World} {p : Addr} {v0 v1 v2 : Value} (h : ∀ j u, ([v0, v1, v2] : List Value)[j]? = some u → w.cell? (p.add j) = some u) : w.cell? p = some v0 ∧ w.cell? ⟨p.block, p.off + 1, none⟩ = some v1 ∧ w.cell? ⟨p.block, p.off + 2, none⟩ = some v2 := by
  have e : ∀ j, 0 < j → p.add j = ⟨p.block, p.off + j, none⟩ := fun j hj => by unfold Addr.add; rw [if_neg (by omega)]
  refine ⟨h 0 _ rfl, ?_, ?_⟩
  · rw [← e 1 (by omega)]; exact h 1 _ rfl
  · rw [← e 2 (by omega)]; exact h 2 _ rfl
end Go.Proofs.Ytnpockkhefbjoaa
