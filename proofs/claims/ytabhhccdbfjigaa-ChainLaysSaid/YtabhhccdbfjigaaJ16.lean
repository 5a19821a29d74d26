/-
  Texts that the main proof rests on, put together: OwnW, Bk, Ref6Find, Ref6Set, Ref11, Ref6May, Ov. No statement is proved here.
-/
import Derived.Test.YtabhhccdbfjigaaJ11
import Derived.Laws.CopyRow
import Derived.Laws.AppendOwn
import Derived.Test.YtabhhccdbfjigaaJ1
import Derived.Sort.Walk0
import Derived.Deep.DrawnRows
import Derived.Lib.Hide
import Derived.Deep.CutRange
import Derived.Deep.RegionLaw
import Derived.Test.YtabhhccdbfjigaaJ12
import Derived.Test.YtabhhccdbfjigaaJ15
import Derived.Test.YtabhhccdbfjigaaJ7
import Derived.Test.YtabhhccdbfjigaaJ14
import Derived.Deep.QuietTactic
import Derived.BigQuiet
import Derived.Test.YtabhhccdbfjigaaJ2
import Derived.Test.YtabhhccdbfjigaaJ5
import Derived.Test.YtabhhccdbfjigaaJ4
namespace Go.Proofs.Ytabhhccdbfjigaa
open Go.RowKit
open Go.Lib
set_option linter.unusedVariables false
set_option linter.unusedSimpArgs false

theorem grown_setRow (w : World) (g : Nat) (cs : Array Value) : w.grownBy (w.setRow g cs) (some g) := ⟨rfl, rfl, rfl, by simp, fun k hk hne => setRow_other w g k cs (fun h => hne (by rw [h]))⟩
theorem grown_trans {a b c : World} {r : Option Nat} (h1 : a.grownBy b r) (h2 : b.grownBy c r) : a.grownBy c r :=
  ⟨h2.os.trans h1.os, h2.tape.trans h1.tape, h2.output.trans h1.output, Nat.le_trans h1.size h2.size, fun k hk hne => (h2.block k (Nat.lt_of_lt_of_le hk h1.size) hne).trans (h1.block k hk hne)⟩
theorem grown_drew (w : World) (r : Option Nat) : w.grownBy w.drew r := ⟨rfl, rfl, rfl, Nat.le_refl _, fun _ _ _ => rfl⟩
theorem grown_of_below {w w' : World} (h : Below w.heap.size w w') : w.grownBy w' none := ⟨h.os, h.tape, h.output, h.size, fun k hk _ => h.block k hk⟩
theorem own_below {w w' : World} {base : Nat} {e : TypeId} {size : Nat} {v : Value} {n : Nat} {xs : List Value} (ho : w.ownsRow base e size v n xs) (h : Below w.heap.size w w') : w'.ownsRow base e size v n xs :=
  ho.kept (grown_of_below h) (by rcases v.ownBlock with _ | g <;> simp)
theorem own_type {w : World} {base : Nat} {e : TypeId} {size : Nat} {v : Value} {n : Nat} {xs : List Value} (ho : w.ownsRow base e size v n xs) {g : Nat} {t : TypeId} {cs : Array Value} (hB : Blk w g t cs) (hne : t ≠ e) : some g ≠ v.ownBlock := by
  rcases ho.2 with ⟨rfl, _⟩ | ⟨g', cap, cur, rfl, _, hg', _⟩
  · simp [Value.ownBlock]
  · intro h
    simp [Value.ownBlock] at h
    exact Blk.ne_ hB hg' hne h
theorem grown_cell {w w' : World} {r : Option Nat} (h : w.grownBy w' r) {p : Addr} (hp : w.heap.size ≤ p.block) (v : Value) : w.grownBy (w'.setCell p v) r :=
  ⟨h.os, h.tape, h.output, by simpa [World.setCell] using h.size, fun k hk hne => (Below.heap_setCell _ _ _ _ (by omega)).trans (h.block k hk hne)⟩
theorem own_apart {w : World} {base : Nat} {e : TypeId} {size : Nat} {v : Value} {n : Nat} {xs : List Value} (h : w.ownsRow base e size v n xs) {g : Nat} (hg : g < base) : v.ownBlock = none ∨ v.ownBlock ≠ some g := by
  rcases hv : v.ownBlock with _ | k
  · exact .inl rfl
  · refine .inr fun he => ?_
    injection he with he
    have := (h.lt k hv).1
    omega
theorem own_ne {w : World} {base : Nat} {e : TypeId} {size : Nat} {v : Value} {n : Nat} {xs : List Value} (h : w.ownsRow base e size v n xs) {g : Nat} (hg : g < base) : some g ≠ v.ownBlock := fun he => by
  have := (h.lt g he.symm).1
  omega
theorem list_one {l : List UInt8} (h : 1 ≤ l.length) : ∃ b t, l = b :: t := by
  cases l with
  | nil => simp at h
  | cons b t => exact ⟨b, t, rfl⟩
theorem own_base {w : World} {base : Nat} {e : TypeId} {size : Nat} {v : Value} {n : Nat} {xs : List Value} (h : w.ownsRow base e size v n xs) : ∀ g, v.ownBlock = some g → base ≤ g := by
  rcases h.2 with ⟨rfl, rfl⟩ | ⟨g', cap, cur, rfl, hb, _⟩
  · simp [Value.ownBlock]
  · intro g hg
    simp [Value.ownBlock] at hg
    omega
theorem own_low {w : World} {base B : Nat} {e : TypeId} {size : Nat} {v : Value} {n : Nat} {xs : List Value} (h : w.ownsRow base e size v n xs) (hB : B ≤ base) : w.ownsRow B e size v n xs := by
  refine ⟨h.1, ?_⟩
  rcases h.2 with h2 | ⟨g', cap, cur, h1, hb, h3⟩
  · exact Or.inl h2
  · exact Or.inr ⟨g', cap, cur, h1, Nat.le_trans hB hb, h3⟩
end Go.Proofs.Ytabhhccdbfjigaa
namespace Go.Proofs.Ytabhhccdbfjigaa
open Go.RowKit
set_option linter.unusedVariables false
set_option linter.unusedSimpArgs false

structure Bk where
  nm : ByteArray
  rt : Nat
  ks : Int
def Bk.cells (b : Bk) : List Value := [.string b.nm, .int .u32 b.rt, .int .i64 b.ks]
theorem Bk.cells_len (b : Bk) : b.cells.length = 3 := rfl
theorem Bk.ext_ {a b : Bk} (h1 : a.nm = b.nm) (h2 : a.rt = b.rt) (h3 : a.ks = b.ks) : a = b := by cases a; cases b; simp_all
/-- The cells of a slice of buckets. -/
def bkc (l : List Bk) : List Value := rowsOf Bk.cells l
/-- A bucket's cells stand at p. -/
def BkAt (w : World) (p : Addr) (b : Bk) : Prop := w.cell? p = some (.string b.nm) ∧ w.cell? ⟨p.block, p.off + 1, none⟩ = some (.int .u32 b.rt) ∧ w.cell? ⟨p.block, p.off + 2, none⟩ = some (.int .i64 b.ks)
theorem BkAt.below {w w' : World} {B : Nat} {p : Addr} {b : Bk} (h : BkAt w p b) (hb : Below B w w') (hp : p.block < B) : BkAt w' p b :=
  ⟨(hb.cell (p := p) hp).trans h.1, (hb.cell (p := ⟨p.block, p.off + 1, none⟩) hp).trans h.2.1, (hb.cell (p := ⟨p.block, p.off + 2, none⟩) hp).trans h.2.2⟩
theorem bk_at {w : World} {B n i : Nat} {A : Option Addr} {l : List Bk} (h : Reads w B 3 A n (bkc l)) (hi : i < n) :
    ∃ ad x, A = some ad ∧ ad.block < B ∧ (ad.add (i * 3)).block < B ∧ l[i]? = some x ∧ BkAt w (ad.add (i * 3)) x := by
  obtain ⟨ad, x, hA, hb, hx, hc⟩ := row_at (fun b => Bk.cells_len b) (by decide) h hi
  exact ⟨ad, x, hA, hb, by rw [block_add]; exact hb, hx, cells3 hc⟩
theorem bk_len {w : World} {B n : Nat} {A : Option Addr} {l : List Bk} (h : Reads w B 3 A n (bkc l)) : l.length = n := rows_len (fun b => Bk.cells_len b) (by decide) h
theorem bk_take {w : World} {B n m : Nat} {A : Option Addr} {l : List Bk} (h : Reads w B 3 A n (bkc l)) (hm : m ≤ n) : Reads w B 3 A m (bkc (l.take m)) := rows_take (fun b => Bk.cells_len b) h hm
theorem bk_drop {w : World} {B n m cap : Nat} {A : Option Addr} {l : List Bk} (h : Reads w B 3 A n (bkc l)) (hm : m ≤ n) (hc : n ≤ cap) : Reads w B 3 (if cap = m then A else A.map (·.add (m * 3))) (n - m) (bkc (l.drop m)) := rows_drop (fun b => Bk.cells_len b) h hm hc
theorem bkc_snoc (l : List Bk) (b : Bk) : bkc l ++ b.cells = bkc (l ++ [b]) := by simp [bkc, rowsOf]
theorem bkc_append (l m : List Bk) : bkc (l ++ m) = bkc l ++ bkc m := rowsOf_append l m

/-- The first index with the name (the length, if there is none). -/
def eqI (l : List Bk) (nm : ByteArray) : Nat := l.findIdx fun b => b.nm.toList == nm.toList
/-- The first index whose name is not below it. -/
def geI (l : List Bk) (nm : ByteArray) : Nat := l.findIdx fun b => !Op.bytesLess b.nm.toList nm.toList
def isI (l : List Bk) (nm : ByteArray) : Bool := decide (eqI l nm < l.length)
def fI (l : List Bk) (nm : ByteArray) : Nat := if eqI l nm < l.length then eqI l nm else geI l nm
theorem fI_le (l : List Bk) (nm : ByteArray) : fI l nm ≤ l.length := by
  unfold fI
  split
  · omega
  · exact List.findIdx_le_length
theorem fI_lt {l : List Bk} {nm : ByteArray} (h : isI l nm = true) : fI l nm < l.length := by
  simp only [isI, decide_eq_true_eq] at h
  unfold fI
  rw [if_pos h]
  exact h
/-- What Set makes, and Del. -/
def setB (l : List Bk) (b : Bk) : List Bk := l.take (fI l b.nm) ++ b :: l.drop (if isI l b.nm = true then fI l b.nm + 1 else fI l b.nm)
def delB (l : List Bk) (nm : ByteArray) : List Bk := if isI l nm = true then l.take (fI l nm) ++ l.drop (fI l nm + 1) else l
/-- The first index with a property, from both sides. -/
theorem findIdx_is {α : Type} {p : α → Bool} {l : List α} {k : Nat} {x : α} (hx : l[k]? = some x) (hp : p x = true) (hb : ∀ j y, j < k → l[j]? = some y → p y = false) : l.findIdx p = k := by
  have hk : k < l.length := (List.getElem?_eq_some_iff.1 hx).1
  have e : l[k] = x := (List.getElem?_eq_some_iff.1 hx).2
  rw [List.findIdx_eq hk]
  refine ⟨by rw [e]; exact hp, fun j hj => ?_⟩
  have := hb j l[j] hj (List.getElem?_eq_getElem (by omega))
  simp [this]
theorem findIdx_none {α : Type} {p : α → Bool} {l : List α} (hb : ∀ j y, j < l.length → l[j]? = some y → p y = false) : l.findIdx p = l.length := by
  rw [List.findIdx_eq_length]
  intro y hy
  obtain ⟨j, hj, rfl⟩ := List.mem_iff_getElem.1 hy
  have := hb j l[j] hj (List.getElem?_eq_getElem hj)
  simp [this]
end Go.Proofs.Ytabhhccdbfjigaa
namespace Go.Proofs.Ytabhhccdbfjigaa
open Go.RowKit
open Go.Lib hiding intOf
set_option linter.unusedVariables false
set_option linter.unusedSimpArgs false
attribute [local go_sem ↓] Go.wp_at_zero Go.wp_at_succ

/-- The size of buckets. -/
def sizeB : List Bk → Nat
  | [] => 0
  | b :: l => 9 + b.nm.size + sizeB l
theorem sizeB_snoc (l : List Bk) (b : Bk) : sizeB (l ++ [b]) = sizeB l + (9 + b.nm.size) := by
  induction l with
  | nil => simp [sizeB]
  | cons c l ih => simp only [List.cons_append, sizeB, ih]; omega
theorem sizeB_take_succ {l : List Bk} {k : Nat} {x : Bk} (h : l[k]? = some x) : sizeB (l.take (k + 1)) = sizeB (l.take k) + (9 + x.nm.size) := by
  obtain ⟨hk, rfl⟩ := List.getElem?_eq_some_iff.1 h
  rw [List.take_succ_eq_append_getElem hk, sizeB_snoc]
theorem sizeB_take_le (l : List Bk) : ∀ k, sizeB (l.take k) ≤ sizeB l := by
  intro k
  induction l generalizing k with
  | nil => simp [sizeB]
  | cons c l ih => cases k with
    | zero => simp [sizeB]
    | succ k => simp only [List.take_succ_cons, sizeB]; have := ih k; omega
end Go.Proofs.Ytabhhccdbfjigaa
namespace Go.Proofs.Ytabhhccdbfjigaa
open Go.RowKit
open Go.Lib hiding intOf
set_option linter.unusedVariables false
set_option linter.unusedSimpArgs false
attribute [local go_sem ↓] Go.wp_at_zero Go.wp_at_succ

theorem bkc_one (l : List Bk) : ∀ u ∈ bkc l, u.oneCell' = true := by
  intro u hu
  obtain ⟨b, _, hb⟩ := List.mem_flatMap.1 hu
  simp only [Bk.cells, List.mem_cons, List.not_mem_nil, or_false] at hb
  rcases hb with rfl | rfl | rfl <;> rfl
theorem bk_one (b : Bk) : ∀ u ∈ b.cells, u.oneCell' = true := fun u hu => bkc_one [b] u (by simpa [bkc, rowsOf] using hu)
/-- A block of the call's own, read as rows. -/
theorem reads_own {w : World} {g k n : Nat} {t : TypeId} {cs : Array Value} (h : Blk w g t cs) (hs : cs.size = n * k) : Reads w (g + 1) k (some ⟨g, 0, none⟩) n cs.toList := by
  refine ⟨by simp [hs], fun _ => ⟨_, rfl, Nat.lt_succ_self _, fun j u hu => ?_⟩⟩
  have e : (⟨g, 0, none⟩ : Addr).add j = ⟨g, j, none⟩ := by unfold Addr.add; split <;> simp_all
  rw [e, h.cell j]
  simpa using hu
end Go.Proofs.Ytabhhccdbfjigaa
namespace Go.Proofs.Ytabhhccdbfjigaa
open Go.RowKit
open Go.Lib hiding intOf
set_option linter.unusedVariables false
set_option linter.unusedSimpArgs false
attribute [local go_sem ↓] Go.wp_at_zero Go.wp_at_succ

theorem infoLk : (Try.prog.info? 46).map (fun i => (i.zero, i.size, i.bytes)) = some (some (.agg #[.int .i64 0, .int .i64 0, .int .u32 0, .int .u32 0, .int .u64 0, .string ByteArray.empty, .int .i64 0]), 7, 56) := by kernel_rfl
theorem lkc_one (l : List Lk) : ∀ u ∈ lkc l, u.oneCell' = true := by
  intro u hu
  unfold lkc rowsOf at hu
  obtain ⟨b, _, hb⟩ := List.mem_flatMap.1 hu
  simp [Lk.cells] at hb
  rcases hb with rfl | rfl | rfl | rfl | rfl | rfl | rfl <;> rfl
theorem lk_one (b : Lk) : ∀ u ∈ b.cells, u.oneCell' = true := fun u hu => lkc_one [b] u (by simpa [lkc, rowsOf] using hu)
theorem map_lk_at {L : List Pg} {i : Nat} {x : Lk} (h : (L.map (fun p => (⟨p, 0⟩ : Lk)))[i]? = some x) : ∃ p, L[i]? = some p ∧ x = ⟨p, 0⟩ := by
  rw [List.getElem?_map, Option.map_eq_some_iff] at h
  obtain ⟨p, h1, rfl⟩ := h
  exact ⟨p, h1, rfl⟩
theorem wasIn_take {L : List Pg} {i h : Nat} {p : Pg} (hp : L[i]? = some p) : wasIn (L.take (i + 1)) h = (wasIn (L.take i) h || decide (p.pg = h)) := by
  obtain ⟨h1, h2⟩ := List.getElem?_eq_some_iff.1 hp
  rw [List.take_succ_eq_append_getElem h1, h2, wasIn_append]
  unfold wasIn
  simp
def sliceLen : Value → Nat
  | .slice _ n _ => n
  | _ => 0
end Go.Proofs.Ytabhhccdbfjigaa
namespace Go.Proofs.Ytabhhccdbfjigaa
open Go.RowKit
open Go.Lib hiding intOf
set_option linter.unusedVariables false
set_option linter.unusedSimpArgs false
attribute [local go_sem ↓] Go.wp_at_zero Go.wp_at_succ

def lostN : ByteArray := ⟨#[108, 111, 115, 116, 43, 102, 111, 117, 110, 100]⟩
theorem lost_list : lostN.toList = [108, 111, 115, 116, 43, 102, 111, 117, 110, 100] := by simp [lostN]
def nameB (s : ByteArray) : Bool := decide (1 ≤ s.size ∧ s.size ≤ 16)
def emptyB (b : Bk) : Bool := decide (b.rt = 0 ∧ b.ks = 0)
def fullB (b : Bk) : Bool := decide ((2 ≤ b.rt ∧ b.rt ≤ 2147483647) ∧ 1 ≤ b.ks ∧ b.ks ≤ 2147483647)
/-- A bucket is valid. -/
def okBk (b : Bk) : Bool := nameB b.nm && (emptyB b || fullB b)
/-- The bucket with index i is valid, and its name is above the one before it. -/
def okAt (l : List Bk) (i : Nat) : Bool :=
  match l[i]? with
  | none => false
  | some b => okBk b && (decide (i = 0) || match l[i - 1]? with | some a => Op.bytesLess a.nm.toList b.nm.toList | none => true)
/-- The size of buckets without that of lost+found. -/
def sumB : List Bk → Nat
  | [] => 0
  | b :: l => (if b.nm.toList == lostN.toList then 0 else 9 + b.nm.size) + sumB l
theorem sumB_snoc (l : List Bk) (b : Bk) : sumB (l ++ [b]) = sumB l + (if b.nm.toList == lostN.toList then 0 else 9 + b.nm.size) := by
  induction l with
  | nil => simp [sumB]
  | cons c l ih => simp only [List.cons_append, sumB, ih]; omega
theorem sumB_take_succ {l : List Bk} {k : Nat} {x : Bk} (h : l[k]? = some x) : sumB (l.take (k + 1)) = sumB (l.take k) + (if x.nm.toList == lostN.toList then 0 else 9 + x.nm.size) := by
  obtain ⟨hk, rfl⟩ := List.getElem?_eq_some_iff.1 h
  rw [List.take_succ_eq_append_getElem hk, sumB_snoc]
theorem sumB_le (l : List Bk) : sumB l ≤ sizeB l := by
  induction l with
  | nil => simp [sumB, sizeB]
  | cons c l ih => simp only [sumB, sizeB]; split <;> omega
def allOk (l : List Bk) : Bool := (List.range l.length).all (okAt l)
/-- Buckets are valid for a page size. -/
def mayL (size : Int) (l : List Bk) : Bool := allOk l && (goodSize size && decide ((sumB l : Int) ≤ size - 43))
theorem allOk_no {l : List Bk} {k : Nat} (hk : k < l.length) (h : okAt l k = false) : allOk l = false := by
  rw [Bool.eq_false_iff]
  intro ha
  rw [allOk, List.all_eq_true] at ha
  rw [ha k (List.mem_range.2 hk)] at h
  cases h
theorem allOk_yes {l : List Bk} (h : ∀ j, j < l.length → okAt l j = true) : allOk l = true := by
  rw [allOk, List.all_eq_true]
  exact fun j hj => h j (List.mem_range.1 hj)
theorem okAt_of {l : List Bk} {k : Nat} {x : Bk} (hx : l[k]? = some x) : okAt l k = (okBk x && (decide (k = 0) || match l[k - 1]? with | some a => Op.bytesLess a.nm.toList x.nm.toList | none => true)) := by
  rw [okAt, hx]
theorem okAt_name {l : List Bk} {k : Nat} {x : Bk} (hx : l[k]? = some x) (h : okAt l k = true) : x.nm.size ≤ 16 := by
  rw [okAt_of hx] at h
  simp only [okBk, nameB, Bool.and_eq_true, decide_eq_true_eq] at h
  exact h.1.1.2
theorem sumB_ok {l : List Bk} : ∀ {k : Nat}, (∀ j, j < k → okAt l j = true) → k ≤ l.length → sumB (l.take k) ≤ 25 * k
  | 0, _, _ => by simp [sumB]
  | k + 1, h, hk => by
    have hx : l[k]? = some l[k] := List.getElem?_eq_getElem (by omega)
    have ih := sumB_ok (k := k) (fun j hj => h j (by omega)) (by omega)
    have hn := okAt_name hx (h k (by omega))
    rw [sumB_take_succ hx]
    split <;> omega
def numB (n : Nat) : Bool := decide (2 ≤ n ∧ n ≤ 2147483647)
theorem rnumB_any (n : Nat) (w : World) : Calls Try.prog 59 #[.int .u32 n] w fun e w' => e = .returned (.bool (numB n)) ∧ w' = w := by
  by_cases h1 : 2 ≤ n
  · have h1' : (2 : Int) ≤ n := by omega
    by_cases h2 : n ≤ 2147483647
    · have h2' : (n : Int) ≤ 2147483647 := by omega
      have HE := Lib.hid (show numB n = true by simp [numB, h1, h2])
      go_enter Try.func59, Try.ntmps59
      go_wp2
      go_ret
      exact ⟨by rw [HE.out]; rfl, rfl⟩
    · have h2' : ¬ (n : Int) ≤ 2147483647 := by omega
      have HE := Lib.hid (show numB n = false by simp [numB, h1, h2])
      go_enter Try.func59, Try.ntmps59
      go_wp2
      go_ret
      exact ⟨by rw [HE.out]; rfl, rfl⟩
  · have h1' : ¬ (2 : Int) ≤ n := by omega
    have HE := Lib.hid (show numB n = false by simp [numB, h1])
    go_enter Try.func59, Try.ntmps59
    go_wp2
    go_ret
    exact ⟨by rw [HE.out]; rfl, rfl⟩
end Go.Proofs.Ytabhhccdbfjigaa
namespace Go.Proofs.Ytabhhccdbfjigaa
open Go.RowKit
open Go.Lib hiding intOf
set_option linter.unusedVariables false
set_option linter.unusedSimpArgs false

/-- How many pieces of r bytes n bytes are. -/
def ceilD (n r : Nat) : Nat := (n + r - 1) / r
/-- The i-th piece of r bytes. -/
def piece (r : Nat) (v : ByteArray) (i : Nat) : ByteArray := v.extract (i * r) (min ((i + 1) * r) v.size)
def chunks (r : Nat) (v : ByteArray) : List ByteArray := (List.range (ceilD v.size r)).map (piece r v)
/-- The parts of a value. -/
def partsL (size : Int) (v : ByteArray) : List ByteArray := if goodSize size then chunks (size - 24).toNat v else []
/-- How many parts so many bytes are. -/
def needN (size n : Int) : Nat := if goodSize size && decide (1 ≤ n) then (n.toNat - 1) / (size - 24).toNat + 1 else 0
theorem ceilD_pos {n r : Nat} (hr : 0 < r) (hn : 0 < n) : ceilD n r = (n - 1) / r + 1 := by
  unfold ceilD
  rw [show n + r - 1 = (n - 1) + r by omega, Nat.add_div_right _ hr]
theorem ceilD_zero {r : Nat} (hr : 0 < r) : ceilD 0 r = 0 := by
  unfold ceilD
  exact Nat.div_eq_of_lt (by omega)
theorem chunks_len (r : Nat) (v : ByteArray) : (chunks r v).length = ceilD v.size r := by simp [chunks]
theorem parts_need (size : Int) (v : ByteArray) : (partsL size v).length = needN size v.size := by
  unfold partsL needN
  rcases hg : goodSize size with _ | _
  · simp
  · obtain ⟨z, rfl, h1, h2, _⟩ := good_nat hg
    have hr : ((z : Int) - 24).toNat = z - 24 := by omega
    simp only [if_true, Bool.true_and]
    rw [chunks_len, hr]
    by_cases hv : v.size = 0
    · rw [hv, ceilD_zero (by omega)]
      simp
    · rw [ceilD_pos (by omega) (by omega)]
      have h3 : decide ((1 : Int) ≤ (v.size : Int)) = true := by simp; omega
      rw [h3, if_pos rfl]
      simp
/-- Where the i-th piece begins there is something left. -/
theorem piece_lt {n r i : Nat} (hr : 0 < r) (hi : i < ceilD n r) : i * r < n := by
  unfold ceilD at hi
  have h1 := (Nat.le_div_iff_mul_le hr).1 (show i + 1 ≤ (n + r - 1) / r by omega)
  rw [Nat.add_mul, Nat.one_mul] at h1
  omega
theorem piece_end {n r i : Nat} (hr : 0 < r) (hi : ¬ i < ceilD n r) : n ≤ i * r := by
  unfold ceilD at hi
  have h1 : ¬ (i + 1) * r ≤ n + r - 1 := fun h => hi ((Nat.le_div_iff_mul_le hr).2 h)
  rw [Nat.add_mul, Nat.one_mul] at h1
  omega
theorem piece_size {r : Nat} {v : ByteArray} {i : Nat} (hr : 0 < r) (hi : i < ceilD v.size r) : (piece r v i).size = min r (v.size - i * r) := by
  have h := piece_lt hr hi
  unfold piece
  rw [ByteArray.size_extract, Nat.add_mul, Nat.one_mul]
  omega
/-- A part is a page's. -/
def mayP9 (size : Int) (n next tx : Nat) (s : ByteArray) : Bool := goodSize size && (decide (1 ≤ s.size) && (decide ((s.size : Int) ≤ size - 24) && (numB n && ((decide (next = 0) || (numB next && decide ((size - 24 : Int) ≤ s.size))) && decide (tx ≤ 4611686018427387904)))))
def overBody (z : Nat) (s : ByteArray) : ByteArray := ⟨(s.data.toList ++ List.replicate (z - 24 - s.size) 0).toArray⟩
theorem mayP9_parts {z n next tx : Nat} {s : ByteArray} (h : mayP9 z n next tx s = true) : goodSize z = true ∧ 1 ≤ s.size ∧ (s.size ≤ z - 24 ∧ 24 ≤ z) ∧ numB n = true ∧ (next = 0 ∨ numB next = true ∧ s.size = z - 24) ∧ tx ≤ 4611686018427387904 := by
  simp only [mayP9, Bool.and_eq_true, Bool.or_eq_true, decide_eq_true_eq] at h
  obtain ⟨h1, h2, h3, h4, h5, h6⟩ := h
  have := good_pos h1
  refine ⟨h1, h2, by omega, h4, ?_, h6⟩
  rcases h5 with h5 | ⟨h5, h7⟩
  · exact .inl h5
  · exact .inr ⟨h5, by omega⟩
theorem overBody_size (z : Nat) (s : ByteArray) (h : s.size ≤ z - 24) : (overBody z s).size = z - 24 := by
  show (s.data.toList ++ List.replicate (z - 24 - s.size) 0).toArray.size = _
  rw [List.size_toArray, List.length_append, List.length_replicate, size_list]
  omega
/-- The bytes of the part of which a page is the page. -/
def readO (kd ct : Int) (pg lk ty : Nat) (bd : ByteArray) : Option ByteArray :=
  if decide (0 ≤ ct) && (decide (ct ≤ bd.size) && (mayP9 ((bd.size + 24 : Nat) : Int) pg lk ty (bd.extract 0 ct.toNat) && decide (kd = 5 ∧ bd = overBody (bd.size + 24) (bd.extract 0 ct.toNat)))) then some (bd.extract 0 ct.toNat) else none
theorem overBody_take (z : Nat) (s : ByteArray) : (overBody z s).extract 0 s.size = s := by
  apply bytes_ext
  have hs : s.data.toList.length = s.size := size_list s
  rw [ByteArray.data_extract, Array.toList_extract, List.extract_eq_take_drop]
  show List.take _ (List.drop 0 (s.data.toList ++ _)) = _
  rw [List.drop_zero, Nat.sub_zero, ← hs, List.take_left]
theorem readO_page {z n next tx : Nat} {s : ByteArray} (h : mayP9 z n next tx s = true) : readO 5 s.size n next tx (overBody z s) = some s := by
  obtain ⟨h1, h2, h3, h4, h5, h6⟩ := mayP9_parts h
  have hz := overBody_size z s h3.1
  have hz2 : (overBody z s).size + 24 = z := by omega
  have ht : (overBody z s).extract 0 ((s.size : Nat) : Int).toNat = s := overBody_take z s
  unfold readO
  rw [ht, hz2, h]
  rw [if_pos]
  simp
  omega
theorem readO_some {kd ct : Int} {pg lk ty : Nat} {bd s : ByteArray} (h : readO kd ct pg lk ty bd = some s) : mayP9 ((bd.size + 24 : Nat) : Int) pg lk ty s = true ∧ kd = 5 ∧ ct = s.size ∧ bd = overBody (bd.size + 24) s := by
  unfold readO at h
  split at h
  · rename_i hc
    injection h with h
    subst h
    simp only [Bool.and_eq_true, decide_eq_true_eq] at hc
    obtain ⟨h1, h2, h3, h4, h5⟩ := hc
    refine ⟨h3, h4, ?_, h5⟩
    rw [ByteArray.size_extract]
    omega
  · cases h
end Go.Proofs.Ytabhhccdbfjigaa
