/-
  Texts that the main proof rests on, put together: OwnW, Bk, Ref6Find, Ref6Set. No statement is proved here.
-/
import Derived.Test.YtabhhccdbfjigaaGreatJ11
import Derived.Laws.CopyRow
import Derived.Laws.AppendOwn
import Derived.Test.YtabhhccdbfjigaaGreatJ1
import Derived.Sort.Walk0
import Derived.Deep.DrawnRows
import Derived.Lib.Hide
import Derived.Deep.CutRange
import Derived.Deep.RegionLaw
namespace Go.Proofs.YtabhhccdbfjigaaGreat
open Go.RowKit
open Go.Lib
set_option linter.unusedVariables false
set_option linter.unusedSimpArgs false

theorem grown_setRow (w : World) (g : Nat) (cs : Array Value) : w.grownBy (w.setRow g cs) (some g) := ⟨rfl, rfl, rfl, by simp, fun k hk hne => setRow_other w g k cs (fun h => hne (by rw [h]))⟩
theorem grown_trans {a b c : World} {r : Option Nat} (h1 : a.grownBy b r) (h2 : b.grownBy c r) : a.grownBy c r :=
  ⟨h2.os.trans h1.os, h2.tape.trans h1.tape, h2.output.trans h1.output, Nat.le_trans h1.size h2.size, fun k hk hne => (h2.block k (Nat.lt_of_lt_of_le hk h1.size) hne).trans (h1.block k hk hne)⟩
theorem grown_drew (w : World) (r : Option Nat) : w.grownBy w.drew r := ⟨rfl, rfl, rfl, Nat.le_refl _, fun _ _ _ => rfl⟩
theorem grown_of_below {w w' : World} (h : Below w.heap.size w w') : w.grownBy w' none := ⟨h.os, h.tape, h.output, h.size, fun k hk _ => h.block k hk⟩
theorem own_below {w w' : World} {base : Nat} {e : TypeId} {size : Nat} {v : Value} {n : Nat} {xs : List Value} (ho : w.ownsRow base e size v n xs) (h : Below w.heap.size w w') : w'.ownsRow base e size v n xs :=
  ho.kept (grown_of_below h) (by rcases v.ownBlock with _ | g <;> simp)
theorem own_type {w : World} {base : Nat} {e : TypeId} {size : Nat} {v : Value} {n : Nat} {xs : List Value} (ho : w.ownsRow base e size v n xs) {g : Nat} {t : TypeId} {cs : Array Value} (hB : Blk w g t cs) (hne : t ≠ e) : some g ≠ v.ownBlock := by
  rcases ho.2 with ⟨rfl, _⟩ | ⟨g', cap, cur, rfl, _, hg', _⟩
  · simp [Value.ownBlock]
  · intro h
    simp [Value.ownBlock] at h
    exact Blk.ne_ hB hg' hne h
theorem grown_cell {w w' : World} {r : Option Nat} (h : w.grownBy w' r) {p : Addr} (hp : w.heap.size ≤ p.block) (v : Value) : w.grownBy (w'.setCell p v) r :=
  ⟨h.os, h.tape, h.output, by simpa [World.setCell] using h.size, fun k hk hne => (Below.heap_setCell _ _ _ _ (by omega)).trans (h.block k hk hne)⟩
theorem own_apart {w : World} {base : Nat} {e : TypeId} {size : Nat} {v : Value} {n : Nat} {xs : List Value} (h : w.ownsRow base e size v n xs) {g : Nat} (hg : g < base) : v.ownBlock = none ∨ v.ownBlock ≠ some g := by
  rcases hv : v.ownBlock with _ | k
  · exact .inl rfl
  · refine .inr fun he => ?_
    injection he with he
    have := (h.lt k hv).1
    omega
theorem own_ne {w : World} {base : Nat} {e : TypeId} {size : Nat} {v : Value} {n : Nat} {xs : List Value} (h : w.ownsRow base e size v n xs) {g : Nat} (hg : g < base) : some g ≠ v.ownBlock := fun he => by
  have := (h.lt g he.symm).1
  omega
theorem list_one {l : List UInt8} (h : 1 ≤ l.length) : ∃ b t, l = b :: t := by
  cases l with
  | nil => simp at h
  | cons b t => exact ⟨b, t, rfl⟩
theorem own_base {w : World} {base : Nat} {e : TypeId} {size : Nat} {v : Value} {n : Nat} {xs : List Value} (h : w.ownsRow base e size v n xs) : ∀ g, v.ownBlock = some g → base ≤ g := by
  rcases h.2 with ⟨rfl, rfl⟩ | ⟨g', cap, cur, rfl, hb, _⟩
  · simp [Value.ownBlock]
  · intro g hg
    simp [Value.ownBlock] at hg
    omega
theorem own_low {w : World} {base B : Nat} {e : TypeId} {size : Nat} {v : Value} {n : Nat} {xs : List Value} (h : w.ownsRow base e size v n xs) (hB : B ≤ base) : w.ownsRow B e size v n xs := by
  refine ⟨h.1, ?_⟩
  rcases h.2 with h2 | ⟨g', cap, cur, h1, hb, h3⟩
  · exact Or.inl h2
  · exact Or.inr ⟨g', cap, cur, h1, Nat.le_trans hB hb, h3⟩
end Go.Proofs.YtabhhccdbfjigaaGreat
namespace Go.Proofs.YtabhhccdbfjigaaGreat
open Go.RowKit
set_option linter.unusedVariables false
set_option linter.unusedSimpArgs false

structure Bk where
  nm : ByteArray
  rt : Nat
  ks : Int
def Bk.cells (b : Bk) : List Value := [.string b.nm, .int .u32 b.rt, .int .i64 b.ks]
theorem Bk.cells_len (b : Bk) : b.cells.length = 3 := rfl
theorem Bk.ext_ {a b : Bk} (h1 : a.nm = b.nm) (h2 : a.rt = b.rt) (h3 : a.ks = b.ks) : a = b := by cases a; cases b; simp_all
/-- The cells of a slice of buckets. -/
def bkc (l : List Bk) : List Value := rowsOf Bk.cells l
/-- A bucket's cells stand at p. -/
def BkAt (w : World) (p : Addr) (b : Bk) : Prop := w.cell? p = some (.string b.nm) ∧ w.cell? ⟨p.block, p.off + 1, none⟩ = some (.int .u32 b.rt) ∧ w.cell? ⟨p.block, p.off + 2, none⟩ = some (.int .i64 b.ks)
theorem BkAt.below {w w' : World} {B : Nat} {p : Addr} {b : Bk} (h : BkAt w p b) (hb : Below B w w') (hp : p.block < B) : BkAt w' p b :=
  ⟨(hb.cell (p := p) hp).trans h.1, (hb.cell (p := ⟨p.block, p.off + 1, none⟩) hp).trans h.2.1, (hb.cell (p := ⟨p.block, p.off + 2, none⟩) hp).trans h.2.2⟩
theorem bk_at {w : World} {B n i : Nat} {A : Option Addr} {l : List Bk} (h : Reads w B 3 A n (bkc l)) (hi : i < n) :
    ∃ ad x, A = some ad ∧ ad.block < B ∧ (ad.add (i * 3)).block < B ∧ l[i]? = some x ∧ BkAt w (ad.add (i * 3)) x := by
  obtain ⟨ad, x, hA, hb, hx, hc⟩ := row_at (fun b => Bk.cells_len b) (by decide) h hi
  exact ⟨ad, x, hA, hb, by rw [block_add]; exact hb, hx, cells3 hc⟩
theorem bk_len {w : World} {B n : Nat} {A : Option Addr} {l : List Bk} (h : Reads w B 3 A n (bkc l)) : l.length = n := rows_len (fun b => Bk.cells_len b) (by decide) h
theorem bk_take {w : World} {B n m : Nat} {A : Option Addr} {l : List Bk} (h : Reads w B 3 A n (bkc l)) (hm : m ≤ n) : Reads w B 3 A m (bkc (l.take m)) := rows_take (fun b => Bk.cells_len b) h hm
theorem bk_drop {w : World} {B n m cap : Nat} {A : Option Addr} {l : List Bk} (h : Reads w B 3 A n (bkc l)) (hm : m ≤ n) (hc : n ≤ cap) : Reads w B 3 (if cap = m then A else A.map (·.add (m * 3))) (n - m) (bkc (l.drop m)) := rows_drop (fun b => Bk.cells_len b) h hm hc
theorem bkc_snoc (l : List Bk) (b : Bk) : bkc l ++ b.cells = bkc (l ++ [b]) := by simp [bkc, rowsOf]
theorem bkc_append (l m : List Bk) : bkc (l ++ m) = bkc l ++ bkc m := rowsOf_append l m

/-- The first index with the name (the length, if there is none). -/
def eqI (l : List Bk) (nm : ByteArray) : Nat := l.findIdx fun b => b.nm.toList == nm.toList
/-- The first index whose name is not below it. -/
def geI (l : List Bk) (nm : ByteArray) : Nat := l.findIdx fun b => !Op.bytesLess b.nm.toList nm.toList
def isI (l : List Bk) (nm : ByteArray) : Bool := decide (eqI l nm < l.length)
def fI (l : List Bk) (nm : ByteArray) : Nat := if eqI l nm < l.length then eqI l nm else geI l nm
theorem fI_le (l : List Bk) (nm : ByteArray) : fI l nm ≤ l.length := by
  unfold fI
  split
  · omega
  · exact List.findIdx_le_length
theorem fI_lt {l : List Bk} {nm : ByteArray} (h : isI l nm = true) : fI l nm < l.length := by
  simp only [isI, decide_eq_true_eq] at h
  unfold fI
  rw [if_pos h]
  exact h
/-- What Set makes, and Del. -/
def setB (l : List Bk) (b : Bk) : List Bk := l.take (fI l b.nm) ++ b :: l.drop (if isI l b.nm = true then fI l b.nm + 1 else fI l b.nm)
def delB (l : List Bk) (nm : ByteArray) : List Bk := if isI l nm = true then l.take (fI l nm) ++ l.drop (fI l nm + 1) else l
/-- The first index with a property, from both sides. -/
theorem findIdx_is {α : Type} {p : α → Bool} {l : List α} {k : Nat} {x : α} (hx : l[k]? = some x) (hp : p x = true) (hb : ∀ j y, j < k → l[j]? = some y → p y = false) : l.findIdx p = k := by
  have hk : k < l.length := (List.getElem?_eq_some_iff.1 hx).1
  have e : l[k] = x := (List.getElem?_eq_some_iff.1 hx).2
  rw [List.findIdx_eq hk]
  refine ⟨by rw [e]; exact hp, fun j hj => ?_⟩
  have := hb j l[j] hj (List.getElem?_eq_getElem (by omega))
  simp [this]
theorem findIdx_none {α : Type} {p : α → Bool} {l : List α} (hb : ∀ j y, j < l.length → l[j]? = some y → p y = false) : l.findIdx p = l.length := by
  rw [List.findIdx_eq_length]
  intro y hy
  obtain ⟨j, hj, rfl⟩ := List.mem_iff_getElem.1 hy
  have := hb j l[j] hj (List.getElem?_eq_getElem hj)
  simp [this]
end Go.Proofs.YtabhhccdbfjigaaGreat
namespace Go.Proofs.YtabhhccdbfjigaaGreat
open Go.RowKit
open Go.Lib hiding intOf
set_option linter.unusedVariables false
set_option linter.unusedSimpArgs false
attribute [local go_sem ↓] Go.wp_at_zero Go.wp_at_succ

/-- The size of buckets. -/
def sizeB : List Bk → Nat
  | [] => 0
  | b :: l => 9 + b.nm.size + sizeB l
theorem sizeB_snoc (l : List Bk) (b : Bk) : sizeB (l ++ [b]) = sizeB l + (9 + b.nm.size) := by
  induction l with
  | nil => simp [sizeB]
  | cons c l ih => simp only [List.cons_append, sizeB, ih]; omega
theorem sizeB_take_succ {l : List Bk} {k : Nat} {x : Bk} (h : l[k]? = some x) : sizeB (l.take (k + 1)) = sizeB (l.take k) + (9 + x.nm.size) := by
  obtain ⟨hk, rfl⟩ := List.getElem?_eq_some_iff.1 h
  rw [List.take_succ_eq_append_getElem hk, sizeB_snoc]
theorem sizeB_take_le (l : List Bk) : ∀ k, sizeB (l.take k) ≤ sizeB l := by
  intro k
  induction l generalizing k with
  | nil => simp [sizeB]
  | cons c l ih => cases k with
    | zero => simp [sizeB]
    | succ k => simp only [List.take_succ_cons, sizeB]; have := ih k; omega
end Go.Proofs.YtabhhccdbfjigaaGreat
namespace Go.Proofs.YtabhhccdbfjigaaGreat
open Go.RowKit
open Go.Lib hiding intOf
set_option linter.unusedVariables false
set_option linter.unusedSimpArgs false
attribute [local go_sem ↓] Go.wp_at_zero Go.wp_at_succ

theorem bkc_one (l : List Bk) : ∀ u ∈ bkc l, u.oneCell' = true := by
  intro u hu
  obtain ⟨b, _, hb⟩ := List.mem_flatMap.1 hu
  simp only [Bk.cells, List.mem_cons, List.not_mem_nil, or_false] at hb
  rcases hb with rfl | rfl | rfl <;> rfl
theorem bk_one (b : Bk) : ∀ u ∈ b.cells, u.oneCell' = true := fun u hu => bkc_one [b] u (by simpa [bkc, rowsOf] using hu)
/-- A block of the call's own, read as rows. -/
theorem reads_own {w : World} {g k n : Nat} {t : TypeId} {cs : Array Value} (h : Blk w g t cs) (hs : cs.size = n * k) : Reads w (g + 1) k (some ⟨g, 0, none⟩) n cs.toList := by
  refine ⟨by simp [hs], fun _ => ⟨_, rfl, Nat.lt_succ_self _, fun j u hu => ?_⟩⟩
  have e : (⟨g, 0, none⟩ : Addr).add j = ⟨g, j, none⟩ := by unfold Addr.add; split <;> simp_all
  rw [e, h.cell j]
  simpa using hu
end Go.Proofs.YtabhhccdbfjigaaGreat
