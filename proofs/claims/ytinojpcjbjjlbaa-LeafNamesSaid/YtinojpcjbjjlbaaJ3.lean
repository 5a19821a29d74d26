/-
  Texts that the main proof rests on, put together: It, Fk. No statement is proved here.
-/
import Derived.Test.YtinojpcjbjjlbaaJ2
import Derived.Sort.Walk0
namespace Go.Proofs.Ytinojpcjbjjlbaa
open Go.RowKit
set_option linter.unusedVariables false
set_option linter.unusedSimpArgs false

theorem cells5 {w : World} {p : Addr} {v0 v1 v2 v3 v4 : Value} (h : ∀ j u, ([v0, v1, v2, v3, v4] : List Value)[j]? = some u → w.cell? (p.add j) = some u) :
    w.cell? p = some v0 ∧ w.cell? ⟨p.block, p.off + 1, none⟩ = some v1 ∧ w.cell? ⟨p.block, p.off + 2, none⟩ = some v2 ∧ w.cell? ⟨p.block, p.off + 3, none⟩ = some v3 ∧ w.cell? ⟨p.block, p.off + 4, none⟩ = some v4 := by
  have e : ∀ k, 0 < k → p.add k = ⟨p.block, p.off + k, none⟩ := fun k hk => by unfold Addr.add; rw [if_neg (by omega)]
  refine ⟨h 0 _ rfl, ?_, ?_, ?_, ?_⟩
  · rw [← e 1 (by decide)]; exact h 1 _ rfl
  · rw [← e 2 (by decide)]; exact h 2 _ rfl
  · rw [← e 3 (by decide)]; exact h 3 _ rfl
  · rw [← e 4 (by decide)]; exact h 4 _ rfl
structure It where
  ky : ByteArray
  vl : ByteArray
  ov : Bool
  ln : Int
  hd : Nat
def It.cells (b : It) : List Value := [.string b.ky, .string b.vl, .bool b.ov, .int .i64 b.ln, .int .u32 b.hd]
theorem It.cells_len (b : It) : b.cells.length = 5 := rfl
theorem It.ext_ {a b : It} (h1 : a.ky = b.ky) (h2 : a.vl = b.vl) (h3 : a.ov = b.ov) (h4 : a.ln = b.ln) (h5 : a.hd = b.hd) : a = b := by cases a; cases b; simp_all
/-- The cells of a slice of items. -/
def itc (l : List It) : List Value := rowsOf It.cells l
/-- An item's cells stand at p. -/
def ItAt (w : World) (p : Addr) (b : It) : Prop := w.cell? p = some (.string b.ky) ∧ w.cell? ⟨p.block, p.off + 1, none⟩ = some (.string b.vl) ∧ w.cell? ⟨p.block, p.off + 2, none⟩ = some (.bool b.ov) ∧ w.cell? ⟨p.block, p.off + 3, none⟩ = some (.int .i64 b.ln) ∧ w.cell? ⟨p.block, p.off + 4, none⟩ = some (.int .u32 b.hd)
theorem ItAt.below {w w' : World} {B : Nat} {p : Addr} {b : It} (h : ItAt w p b) (hb : Below B w w') (hp : p.block < B) : ItAt w' p b :=
  ⟨(hb.cell (p := p) hp).trans h.1, (hb.cell (p := ⟨p.block, p.off + 1, none⟩) hp).trans h.2.1, (hb.cell (p := ⟨p.block, p.off + 2, none⟩) hp).trans h.2.2.1, (hb.cell (p := ⟨p.block, p.off + 3, none⟩) hp).trans h.2.2.2.1, (hb.cell (p := ⟨p.block, p.off + 4, none⟩) hp).trans h.2.2.2.2⟩
theorem it_at {w : World} {B n i : Nat} {A : Option Addr} {l : List It} (h : Reads w B 5 A n (itc l)) (hi : i < n) :
    ∃ ad x, A = some ad ∧ ad.block < B ∧ (ad.add (i * 5)).block < B ∧ l[i]? = some x ∧ ItAt w (ad.add (i * 5)) x := by
  obtain ⟨ad, x, hA, hb, hx, hc⟩ := row_at (fun b => It.cells_len b) (by decide) h hi
  exact ⟨ad, x, hA, hb, by rw [block_add]; exact hb, hx, cells5 hc⟩
theorem it_len {w : World} {B n : Nat} {A : Option Addr} {l : List It} (h : Reads w B 5 A n (itc l)) : l.length = n := rows_len (fun b => It.cells_len b) (by decide) h
theorem it_take {w : World} {B n m : Nat} {A : Option Addr} {l : List It} (h : Reads w B 5 A n (itc l)) (hm : m ≤ n) : Reads w B 5 A m (itc (l.take m)) := rows_take (fun b => It.cells_len b) h hm
theorem it_drop {w : World} {B n m cap : Nat} {A : Option Addr} {l : List It} (h : Reads w B 5 A n (itc l)) (hm : m ≤ n) (hc : n ≤ cap) : Reads w B 5 (if cap = m then A else A.map (·.add (m * 5))) (n - m) (itc (l.drop m)) := rows_drop (fun b => It.cells_len b) h hm hc
theorem itc_snoc (l : List It) (b : It) : itc l ++ b.cells = itc (l ++ [b]) := by simp [itc, rowsOf]
theorem itc_append (l m : List It) : itc (l ++ m) = itc l ++ itc m := rowsOf_append l m
end Go.Proofs.Ytinojpcjbjjlbaa
namespace Go.Proofs.Ytinojpcjbjjlbaa
open Go.RowKit
set_option linter.unusedVariables false
set_option linter.unusedSimpArgs false

theorem cells2 {w : World} {p : Addr} {v0 v1 : Value} (h : ∀ j u, ([v0, v1] : List Value)[j]? = some u → w.cell? (p.add j) = some u) : w.cell? p = some v0 ∧ w.cell? ⟨p.block, p.off + 1, none⟩ = some v1 := by
  have e : p.add 1 = ⟨p.block, p.off + 1, none⟩ := by unfold Addr.add; rw [if_neg (by omega)]
  refine ⟨h 0 _ rfl, ?_⟩
  rw [← e]
  exact h 1 _ rfl
structure Fk where
  nm : ByteArray
  rt : Nat
def Fk.cells (b : Fk) : List Value := [.string b.nm, .int .u32 b.rt]
theorem Fk.cells_len (b : Fk) : b.cells.length = 2 := rfl
theorem Fk.ext_ {a b : Fk} (h1 : a.nm = b.nm) (h2 : a.rt = b.rt) : a = b := by cases a; cases b; simp_all
/-- The cells of a slice of forks. -/
def fkc (l : List Fk) : List Value := rowsOf Fk.cells l
/-- A fork's cells stand at p. -/
def FkAt (w : World) (p : Addr) (b : Fk) : Prop := w.cell? p = some (.string b.nm) ∧ w.cell? ⟨p.block, p.off + 1, none⟩ = some (.int .u32 b.rt)
theorem FkAt.below {w w' : World} {B : Nat} {p : Addr} {b : Fk} (h : FkAt w p b) (hb : Below B w w') (hp : p.block < B) : FkAt w' p b :=
  ⟨(hb.cell (p := p) hp).trans h.1, (hb.cell (p := ⟨p.block, p.off + 1, none⟩) hp).trans h.2⟩
theorem fk_at {w : World} {B n i : Nat} {A : Option Addr} {l : List Fk} (h : Reads w B 2 A n (fkc l)) (hi : i < n) :
    ∃ ad x, A = some ad ∧ ad.block < B ∧ (ad.add (i * 2)).block < B ∧ l[i]? = some x ∧ FkAt w (ad.add (i * 2)) x := by
  obtain ⟨ad, x, hA, hb, hx, hc⟩ := row_at (fun b => Fk.cells_len b) (by decide) h hi
  exact ⟨ad, x, hA, hb, by rw [block_add]; exact hb, hx, cells2 hc⟩
theorem fk_len {w : World} {B n : Nat} {A : Option Addr} {l : List Fk} (h : Reads w B 2 A n (fkc l)) : l.length = n := rows_len (fun b => Fk.cells_len b) (by decide) h
theorem fk_take {w : World} {B n m : Nat} {A : Option Addr} {l : List Fk} (h : Reads w B 2 A n (fkc l)) (hm : m ≤ n) : Reads w B 2 A m (fkc (l.take m)) := rows_take (fun b => Fk.cells_len b) h hm
theorem fk_drop {w : World} {B n m cap : Nat} {A : Option Addr} {l : List Fk} (h : Reads w B 2 A n (fkc l)) (hm : m ≤ n) (hc : n ≤ cap) : Reads w B 2 (if cap = m then A else A.map (·.add (m * 2))) (n - m) (fkc (l.drop m)) := rows_drop (fun b => Fk.cells_len b) h hm hc
theorem fkc_snoc (l : List Fk) (b : Fk) : fkc l ++ b.cells = fkc (l ++ [b]) := by simp [fkc, rowsOf]
theorem fkc_append (l m : List Fk) : fkc (l ++ m) = fkc l ++ fkc m := rowsOf_append l m

end Go.Proofs.Ytinojpcjbjjlbaa
