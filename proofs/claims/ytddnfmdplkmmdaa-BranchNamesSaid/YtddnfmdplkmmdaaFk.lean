/-
  Forks as plain data: their cells, a slice of them read as a list; plain lemmas. No statement is proved here.
-/
import Derived.Test.YtddnfmdplkmmdaaStructRows
import Derived.Sort.Walk0
namespace Go.Proofs.Ytddnfmdplkmmdaa
open Go.RowKit
set_option linter.unusedVariables false
set_option linter.unusedSimpArgs false

theorem cells2 {w : World} {p : Addr} {v0 v1 : Value} (h : ∀ j u, ([v0, v1] : List Value)[j]? = some u → w.cell? (p.add j) = some u) : w.cell? p = some v0 ∧ w.cell? ⟨p.block, p.off + 1, none⟩ = some v1 := by
  have e : p.add 1 = ⟨p.block, p.off + 1, none⟩ := by unfold Addr.add; rw [if_neg (by omega)]
  refine ⟨h 0 _ rfl, ?_⟩
  rw [← e]
  exact h 1 _ rfl
structure Fk where
  nm : ByteArray
  rt : Nat
def Fk.cells (b : Fk) : List Value := [.string b.nm, .int .u32 b.rt]
theorem Fk.cells_len (b : Fk) : b.cells.length = 2 := rfl
theorem Fk.ext_ {a b : Fk} (h1 : a.nm = b.nm) (h2 : a.rt = b.rt) : a = b := by cases a; cases b; simp_all
/-- The cells of a slice of forks. -/
def fkc (l : List Fk) : List Value := rowsOf Fk.cells l
/-- A fork's cells stand at p. -/
def FkAt (w : World) (p : Addr) (b : Fk) : Prop := w.cell? p = some (.string b.nm) ∧ w.cell? ⟨p.block, p.off + 1, none⟩ = some (.int .u32 b.rt)
theorem FkAt.below {w w' : World} {B : Nat} {p : Addr} {b : Fk} (h : FkAt w p b) (hb : Below B w w') (hp : p.block < B) : FkAt w' p b :=
  ⟨(hb.cell (p := p) hp).trans h.1, (hb.cell (p := ⟨p.block, p.off + 1, none⟩) hp).trans h.2⟩
theorem fk_at {w : World} {B n i : Nat} {A : Option Addr} {l : List Fk} (h : Reads w B 2 A n (fkc l)) (hi : i < n) :
    ∃ ad x, A = some ad ∧ ad.block < B ∧ (ad.add (i * 2)).block < B ∧ l[i]? = some x ∧ FkAt w (ad.add (i * 2)) x := by
  obtain ⟨ad, x, hA, hb, hx, hc⟩ := row_at (fun b => Fk.cells_len b) (by decide) h hi
  exact ⟨ad, x, hA, hb, by rw [block_add]; exact hb, hx, cells2 hc⟩
theorem fk_len {w : World} {B n : Nat} {A : Option Addr} {l : List Fk} (h : Reads w B 2 A n (fkc l)) : l.length = n := rows_len (fun b => Fk.cells_len b) (by decide) h
theorem fk_take {w : World} {B n m : Nat} {A : Option Addr} {l : List Fk} (h : Reads w B 2 A n (fkc l)) (hm : m ≤ n) : Reads w B 2 A m (fkc (l.take m)) := rows_take (fun b => Fk.cells_len b) h hm
theorem fk_drop {w : World} {B n m cap : Nat} {A : Option Addr} {l : List Fk} (h : Reads w B 2 A n (fkc l)) (hm : m ≤ n) (hc : n ≤ cap) : Reads w B 2 (if cap = m then A else A.map (·.add (m * 2))) (n - m) (fkc (l.drop m)) := rows_drop (fun b => Fk.cells_len b) h hm hc
theorem fkc_snoc (l : List Fk) (b : Fk) : fkc l ++ b.cells = fkc (l ++ [b]) := by simp [fkc, rowsOf]
theorem fkc_append (l m : List Fk) : fkc (l ++ m) = fkc l ++ fkc m := rowsOf_append l m

end Go.Proofs.Ytddnfmdplkmmdaa
