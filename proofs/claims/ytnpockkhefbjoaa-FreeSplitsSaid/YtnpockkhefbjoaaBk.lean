/-
  Buckets as plain data: their cells, a slice of them read as a list, where a name is found, what Set and Del make; plain lemmas. No statement is proved here.
-/
import Derived.Test.YtnpockkhefbjoaaStructRows
import Derived.Sort.Walk0
namespace Go.Proofs.Ytnpockkhefbjoaa
open Go.RowKit
set_option linter.unusedVariables false
set_option linter.unusedSimpArgs false

structure Bk where
  nm : ByteArray
  rt : Nat
  ks : Int
def Bk.cells (b : Bk) : List Value := [.string b.nm, .int .u32 b.rt, .int .i64 b.ks]
theorem Bk.cells_len (b : Bk) : b.cells.length = 3 := rfl
theorem Bk.ext_ {a b : Bk} (h1 : a.nm = b.nm) (h2 : a.rt = b.rt) (h3 : a.ks = b.ks) : a = b := by cases a; cases b; simp_all
/-- The cells of a slice of buckets. -/
def bkc (l : List Bk) : List Value := rowsOf Bk.cells l
/-- A bucket's cells stand at p. -/
def BkAt (w : World) (p : Addr) (b : Bk) : Prop := w.cell? p = some (.string b.nm) ∧ w.cell? ⟨p.block, p.off + 1, none⟩ = some (.int .u32 b.rt) ∧ w.cell? ⟨p.block, p.off + 2, none⟩ = some (.int .i64 b.ks)
theorem BkAt.below {w w' : World} {B : Nat} {p : Addr} {b : Bk} (h : BkAt w p b) (hb : Below B w w') (hp : p.block < B) : BkAt w' p b :=
  ⟨(hb.cell (p := p) hp).trans h.1, (hb.cell (p := ⟨p.block, p.off + 1, none⟩) hp).trans h.2.1, (hb.cell (p := ⟨p.block, p.off + 2, none⟩) hp).trans h.2.2⟩
theorem bk_at {w : World} {B n i : Nat} {A : Option Addr} {l : List Bk} (h : Reads w B 3 A n (bkc l)) (hi : i < n) :
    ∃ ad x, A = some ad ∧ ad.block < B ∧ (ad.add (i * 3)).block < B ∧ l[i]? = some x ∧ BkAt w (ad.add (i * 3)) x := by
  obtain ⟨ad, x, hA, hb, hx, hc⟩ := row_at (fun b => Bk.cells_len b) (by decide) h hi
  exact ⟨ad, x, hA, hb, by rw [block_add]; exact hb, hx, cells3 hc⟩
theorem bk_len {w : World} {B n : Nat} {A : Option Addr} {l : List Bk} (h : Reads w B 3 A n (bkc l)) : l.length = n := rows_len (fun b => Bk.cells_len b) (by decide) h
theorem bk_take {w : World} {B n m : Nat} {A : Option Addr} {l : List Bk} (h : Reads w B 3 A n (bkc l)) (hm : m ≤ n) : Reads w B 3 A m (bkc (l.take m)) := rows_take (fun b => Bk.cells_len b) h hm
theorem bk_drop {w : World} {B n m cap : Nat} {A : Option Addr} {l : List Bk} (h : Reads w B 3 A n (bkc l)) (hm : m ≤ n) (hc : n ≤ cap) : Reads w B 3 (if cap = m then A else A.map (·.add (m * 3))) (n - m) (bkc (l.drop m)) := rows_drop (fun b => Bk.cells_len b) h hm hc
theorem bkc_snoc (l : List Bk) (b : Bk) : bkc l ++ b.cells = bkc (l ++ [b]) := by simp [bkc, rowsOf]
theorem bkc_append (l m : List Bk) : bkc (l ++ m) = bkc l ++ bkc m := rowsOf_append l m

/-- The first index with the name (the length, if there is none). -/
def eqI (l : List Bk) (nm : ByteArray) : Nat := l.findIdx fun b => b.nm.toList == nm.toList
/-- The first index whose name is not below it. -/
def geI (l : List Bk) (nm : ByteArray) : Nat := l.findIdx fun b => !Op.bytesLess b.nm.toList nm.toList
def isI (l : List Bk) (nm : ByteArray) : Bool := decide (eqI l nm < l.length)
def fI (l : List Bk) (nm : ByteArray) : Nat := if eqI l nm < l.length then eqI l nm else geI l nm
theorem fI_le (l : List Bk) (nm : ByteArray) : fI l nm ≤ l.length := by
  unfold fI
  split
  · omega
  · exact List.findIdx_le_length
theorem fI_lt {l : List Bk} {nm : ByteArray} (h : isI l nm = true) : fI l nm < l.length := by
  simp only [isI, decide_eq_true_eq] at h
  unfold fI
  rw [if_pos h]
  exact h
/-- What Set makes, and Del. -/
def setB (l : List Bk) (b : Bk) : List Bk := l.take (fI l b.nm) ++ b :: l.drop (if isI l b.nm = true then fI l b.nm + 1 else fI l b.nm)
def delB (l : List Bk) (nm : ByteArray) : List Bk := if isI l nm = true then l.take (fI l nm) ++ l.drop (fI l nm + 1) else l
/-- The first index with a property, from both sides. -/
theorem findIdx_is {α : Type} {p : α → Bool} {l : List α} {k : Nat} {x : α} (hx : l[k]? = some x) (hp : p x = true) (hb : ∀ j y, j < k → l[j]? = some y → p y = false) : l.findIdx p = k := by
  have hk : k < l.length := (List.getElem?_eq_some_iff.1 hx).1
  have e : l[k] = x := (List.getElem?_eq_some_iff.1 hx).2
  rw [List.findIdx_eq hk]
  refine ⟨by rw [e]; exact hp, fun j hj => ?_⟩
  have := hb j l[j] hj (List.getElem?_eq_getElem (by omega))
  simp [this]
theorem findIdx_none {α : Type} {p : α → Bool} {l : List α} (hb : ∀ j y, j < l.length → l[j]? = some y → p y = false) : l.findIdx p = l.length := by
  rw [List.findIdx_eq_length]
  intro y hy
  obtain ⟨j, hj, rfl⟩ := List.mem_iff_getElem.1 hy
  have := hb j l[j] hj (List.getElem?_eq_getElem hj)
  simp [this]
end Go.Proofs.Ytnpockkhefbjoaa
