/-
  Texts that the main proof rests on, put together: Words, StructRows, Plain, Octet. No statement is proved here.
-/
import Derived.Test.YtmmjckokjmpfpaaGreatProg
import Derived.WalkKit
import Derived.ProofKit
import Derived.WalkLawsBesides
import Derived.WalkSpells
import Derived.OwnWalk
import Derived.Laws.OwnMore
import Derived.Laws.Rows
import Derived.Laws.IdiomStrings
import Derived.Lib.BufferRead
import Derived.Lib.Hide
import Derived.LaidEqlPtr
import Derived.Deep.Draws
import Derived.Deep.QuietTactic
import Derived.BigQuiet
import Derived.Deep.AppendLies
import Derived.Maps.AppendAt
import Derived.RegionTactic
import Derived.KernelRfl
import Derived.OpenShut
import Derived.Deep.SlicePairs
import Derived.Lib.Endian
import Derived.Lib.EndianBits
import Derived.Laws.Bits64b
import Derived.Laws.BitsAllLaws
import Derived.Below
import Derived.Lib.Strings
set_option linter.unusedVariables false
set_option linter.unusedSimpArgs false
namespace Go.Proofs.YtmmjckokjmpfpaaGreat
open Go.RowKit Go.ChangeShapes Go.WideShapes

theorem block_add (a : Addr) (n : Nat) : (a.add n).block = a.block := by unfold Addr.add; split <;> rfl
theorem add_add (a : Addr) (i j : Nat) : (a.add i).add j = a.add (i + j) := by
 unfold Addr.add
 by_cases hi : i = 0 <;> by_cases hj : j = 0 <;> simp [hi, hj, Nat.add_assoc]

def Reads (w : World) (B size : Nat) (A : Option Addr) (n : Nat) (xs : List Value) : Prop :=
 xs.length = n * size ∧ (0 < n → ∃ ad, A = some ad ∧ ad.block < B ∧ ∀ j u, xs[j]? = some u → w.cell? (ad.add j) = some u)

section
variable {w w' : World} {B B' size n : Nat} {A : Option Addr} {xs : List Value}
theorem Reads.none_ : Reads w B size A 0 [] := ⟨by simp, fun h => absurd h (by omega)⟩
theorem Reads.at_ {k : Nat} (h : Reads w B 1 A n xs) (hk : k < n) : ∃ ad u, A = some ad ∧ ad.block < B ∧ xs[k]? = some u ∧ w.cell? (ad.add k) = some u := by
 obtain ⟨ad, e, hb, hc⟩ := h.2 (by omega)
 have hl : k < xs.length := by have := h.1; omega
 exact ⟨ad, xs[k], e, hb, List.getElem?_eq_getElem hl, hc k _ (List.getElem?_eq_getElem hl)⟩
theorem Reads.keep (h : Reads w B size A n xs) (hk : ∀ p : Addr, p.block < B → w'.cell? p = w.cell? p) : Reads w' B size A n xs :=
 ⟨h.1, fun hn => by
  obtain ⟨ad, e, hb, hc⟩ := h.2 hn
  exact ⟨ad, e, hb, fun j u hu => (hk _ (by rw [block_add]; exact hb)).trans (hc j u hu)⟩⟩
theorem Reads.more (h : Reads w B size A n xs) (hB : B ≤ B') : Reads w B' size A n xs :=
 ⟨h.1, fun hn => by
  obtain ⟨ad, e, hb, hc⟩ := h.2 hn
  exact ⟨ad, e, by omega, hc⟩⟩
theorem Reads.below (h : Reads w B size A n xs) (hb : Below B w w') : Reads w' B size A n xs := h.keep fun _ hp => hb.cell hp
theorem Reads.drew (h : Reads w B size A n xs) : Reads w.drew B size A n xs := h
theorem Reads.drewN (h : Reads w B size A n xs) (k : Nat) : Reads (w.drewN k) B size A n xs := h
theorem Reads.alloc (h : Reads w B size A n xs) (hB : B ≤ w.heap.size) (o : Obj) : Reads (w.alloc o) B size A n xs := h.keep fun p hp => World.cell?_alloc_lt w o p (by omega)
theorem Reads.cut (h : Reads w B size A n xs) {k cap : Nat} (hk : k ≤ n) (hc : n ≤ cap) :
  Reads w B size (if cap = k then A else A.map (·.add (k * size))) (n - k) (xs.drop (k * size)) := by
 refine ⟨by rw [List.length_drop, h.1, Nat.sub_mul], fun hn => ?_⟩
 obtain ⟨ad, rfl, hb, hcell⟩ := h.2 (by omega)
 rw [if_neg (by omega)]
 refine ⟨ad.add (k * size), rfl, by rw [block_add]; exact hb, fun j u hu => ?_⟩
 rw [add_add]
 exact hcell _ u (by rw [← hu, List.getElem?_drop])
theorem Reads.of_own {base : Nat} {e : TypeId} {c : Nat} (h : w.ownsRow base e size (.slice A n c) n xs) : Reads w w.heap.size size A n xs := by
 refine ⟨h.1, fun hn => ?_⟩
 obtain ⟨g, cap, hv, _, hlt⟩ := h.form hn
 have hA : A = some ⟨g, 0, none⟩ := by injection hv
 subst hA
 exact ⟨_, rfl, hlt, h.cells (g := g) rfl⟩
end

theorem own_form {w : World} {base : Nat} {e : TypeId} {size : Nat} {v : Value} {n : Nat} {xs : List Value} (h : w.ownsRow base e size v n xs) :
  ∃ A c, v = .slice A n c ∧ n ≤ c ∧ c ≤ maxLen ∧ (∀ a, A = some a → base ≤ a.block) := by
 rcases h.2 with ⟨rfl, rfl⟩ | ⟨g, cap, cur, rfl, hb, _, hc, hm, _⟩
 ·exact ⟨_, _, rfl, Nat.le_refl _, by simp [maxLen], by simp⟩
 ·exact ⟨_, _, rfl, hc, hm, by rintro a ⟨⟩; exact hb⟩

def ReadsN (B : Nat) (w : World) (size : Nat) (A : Option Addr) (n : Nat) (xs : List Value) : Prop := Reads w w.heap.size size A n xs ∧ ∀ ad, A = some ad → B ≤ ad.block
theorem ReadsN.none_ {B : Nat} {w : World} {size : Nat} : ReadsN B w size none 0 [] := ⟨Reads.none_, fun _ h => by cases h⟩
theorem ReadsN.of_own {B : Nat} {w : World} {size n base : Nat} {A : Option Addr} {e : TypeId} {c : Nat} {xs : List Value} (h : w.ownsRow base e size (.slice A n c) n xs) (hB : B ≤ base) : ReadsN B w size A n xs := by
 refine ⟨Reads.of_own h, fun ad e => ?_⟩
 obtain ⟨A', c', he, _, _, h3⟩ := own_form h
 injection he with e1 _ _
 exact Nat.le_trans hB (h3 ad (e1 ▸ e))
def Blk (w : World) (g : Nat) (t : TypeId) (cs : Array Value) : Prop := w.heap[g]? = some (.cells cs t (0, 0))

section
variable {w w' : World} {g : Nat} {t : TypeId} {cs : Array Value}
theorem Blk.lt (h : Blk w g t cs) : g < w.heap.size := by
 rcases Nat.lt_or_ge g w.heap.size with hlt | hge
 ·exact hlt
 ·unfold Blk at h; rw [Array.getElem?_eq_none hge] at h; cases h
theorem Blk.cell (h : Blk w g t cs) (i : Nat) : w.cell? ⟨g, i, none⟩ = cs[i]? := cell_of_row w g i cs t (0, 0) h
theorem Blk.frozen (h : Blk w g t cs) (i : Nat) : w.frozen? ⟨g, i, none⟩ = false := by
 unfold Blk at h
 simp [World.frozen?, h]
theorem Blk.new (w : World) (t : TypeId) (cs : Array Value) : Blk (w.alloc (.cells cs t)) w.heap.size t cs := heap_alloc_new w _
theorem Blk.drew (h : Blk w g t cs) : Blk w.drew g t cs := h
theorem Blk.alloc (h : Blk w g t cs) (o : Obj) : Blk (w.alloc o) g t cs := (Below.heap_alloc w o g h.lt).trans h
theorem Blk.set_ (h : Blk w g t cs) (i : Nat) (u : Value) : Blk (w.setCell ⟨g, i, none⟩ u) g t (cs.setIfInBounds i u) := by
 unfold Blk at h ⊢
 simp [World.setCell, Array.getElem?_modify, h]
theorem Blk.far (h : Blk w g t cs) {p : Addr} (hp : g ≠ p.block) (u : Value) : Blk (w.setCell p u) g t cs := (Below.heap_setCell w p u g hp).trans h
theorem Blk.below {B : Nat} (h : Blk w g t cs) (hb : Below B w w') (hg : g < B) : Blk w' g t cs := (hb.block g hg).trans h
theorem Blk.grown {row : Option Nat} (h : Blk w g t cs) (hb : w.grownBy w' row) (hg : some g ≠ row) : Blk w' g t cs := (hb.block g h.lt hg).trans h
theorem Blk.ne_ {g' : Nat} {t' : TypeId} {cs' : Array Value} (h : Blk w g t cs) (h' : Blk w g' t' cs') (hne : t ≠ t') : g ≠ g' := by
 rintro rfl
 unfold Blk at h h'
 rw [h] at h'
 injection h' with h'
 injection h' with _ ht
 exact hne ht
end

section
variable {P : Program} (w : World)

theorem run_append_of_nil (base : Nat) (t ty e : TypeId) (i : TypeInfo) (size : Nat) (ht : P.underlying t = some (.slice e)) (hi : P.info? e = some i)
  (v : Value) (n : Nat) (xs : List Value) (hown : w.ownsRow base e size v n xs) (c : Nat) : (Builtin.append_ #[t, t] ty #[v, .slice none 0 c]).run P w = .ok v w := by
 rcases hown.2 with ⟨rfl, rfl⟩ | ⟨g, cap, cur, rfl, _, _, hnc, _⟩
 ·simp [Builtin.append_, run_underlying ht, sizeOf, typeInfo, hi, Builtin.lenOf, Builtin.firstCells]
 ·simp [Builtin.append_, run_underlying ht, sizeOf, typeInfo, hi, Builtin.lenOf, Builtin.firstCells, hnc, storeCells]

theorem run_append_any (base : Nat) (t ty e : TypeId) (i : TypeInfo) (z : Value) (size bytes : Nat) (ht : P.underlying t = some (.slice e)) (hi : P.info? e = some i) (hz : i.zero = some z)
  (hsize : i.size = size) (hby : i.bytes = bytes) (hzs : z.cells.size = size) (hsz : 0 < size)
  (v : Value) (n : Nat) (xs : List Value) (hown : w.ownsRow base e size v n xs)
  (B : Nat) (A : Option Addr) (m c : Nat) (news : List Value) (hr : Reads w B size A m news) (h1 : ∀ u ∈ news, u.oneCell' = true)
  (h63 : n + m ≤ maxLen) (hbytes : (n + m) * bytes ≤ 140737488355328) (hbase : base ≤ w.heap.size) :
  ∃ v' w', (Builtin.append_ #[t, t] ty #[v, .slice A m c]).run P w = .ok v' w' ∧ w'.ownsRow base e size v' (n + m) (xs ++ news) ∧ w.grownBy w' v.ownBlock ∧
   (v'.ownBlock = v.ownBlock ∨ v'.ownBlock = some w.heap.size) := by
 rcases A with _ | ad
 ·have hm : m = 0 := by
   rcases Nat.eq_zero_or_pos m with h0 | h0
   ·exact h0
   ·obtain ⟨ad, h, _⟩ := hr.2 h0
    cases h
  subst hm
  have hn : news = [] := List.eq_nil_of_length_eq_zero (by simpa using hr.1)
  subst hn
  exact ⟨v, w, run_append_of_nil w base t ty e i size ht hi v n xs hown c, by simpa using hown, World.grownBy.refl w _, .inl rfl⟩
 ·have hcells : ∀ j u, news[j]? = some u → w.cell? (ad.add j) = some u := by
   intro j u hu
   rcases Nat.eq_zero_or_pos m with h0 | h0
   ·subst h0
    have hn : news = [] := List.eq_nil_of_length_eq_zero (by simpa using hr.1)
    subst hn
    simp at hu
   ·obtain ⟨ad', h, _, hc⟩ := hr.2 h0
    injection h with h
    subst h
    exact hc j u hu
  obtain ⟨v', w', hrun, h2, h3, _, h5⟩ := run_append_own_at (P := P) w base t ty e i z size bytes ht hi hz hsize hby hzs hsz v n xs hown ad m c news hr.1 hcells h1 h63 hbytes hbase
  exact ⟨v', w', hrun, h2, h3, h5⟩

theorem wp_append_any {o : Oper} {a : Act} {K : Act → World → Prop} {Q : Exit → Act → World → Prop} (s x : Operand) (t : TypeId)
  (ho : o.op = .call { callee := .builtin .append, args := #[s, x], argTypes := #[t, t] })
  (base : Nat) (e : TypeId) (i : TypeInfo) (z : Value) (size bytes : Nat) (ht : P.underlying t = some (.slice e)) (hi : P.info? e = some i) (hz : i.zero = some z)
  (hsize : i.size = size) (hby : i.bytes = bytes) (hzs : z.cells.size = size) (hsz : 0 < size)
  (v : Value) (n : Nat) (xs : List Value) (hs : a.eval s = v) (hown : w.ownsRow base e size v n xs)
  (B : Nat) (A : Option Addr) (m c : Nat) (news : List Value) (hx : a.eval x = .slice A m c) (hr : Reads w B size A m news) (h1 : ∀ u ∈ news, u.oneCell' = true)
  (h63 : n + m ≤ maxLen) (hbytes : (n + m) * bytes ≤ 140737488355328) (hbase : base ≤ w.heap.size)
  (h : ∀ v' w', w'.ownsRow base e size v' (n + m) (xs ++ news) → w.grownBy w' v.ownBlock → (v'.ownBlock = v.ownBlock ∨ v'.ownBlock = some w.heap.size) → K (a.put o.dst v') w') : o.wp P a w K Q := by
 obtain ⟨v', w', hrun, h2, h3, h4⟩ := run_append_any (P := P) w base t o.type e i z size bytes ht hi hz hsize hby hzs hsz v n xs hown B A m c news hr h1 h63 hbytes hbase
 unfold Oper.wp execOp
 simp only [ho, resolve, invoke, builtin, Sem.run_bind, Sem.run_pure, Result.andThen_ok, List.map_toArray, List.map_cons, List.map_nil, hs, hx, hrun]
 exact h v' w' h2 h3 h4

theorem wpList_append_any {ops : Array Oper} {rest : List Oper} {o : Oper} {a : Act} {Q : Exit → Act → World → Prop} (hgd : o.guard = none) (s x : Operand) (t : TypeId)
  (ho : o.op = .call { callee := .builtin .append, args := #[s, x], argTypes := #[t, t] })
  (base : Nat) (e : TypeId) (i : TypeInfo) (z : Value) (size bytes : Nat) (ht : P.underlying t = some (.slice e)) (hi : P.info? e = some i) (hz : i.zero = some z)
  (hsize : i.size = size) (hby : i.bytes = bytes) (hzs : z.cells.size = size) (hsz : 0 < size)
  (v : Value) (n : Nat) (xs : List Value) (hs : a.eval s = v) (hown : w.ownsRow base e size v n xs)
  (B : Nat) (A : Option Addr) (m c : Nat) (news : List Value) (hx : a.eval x = .slice A m c) (hr : Reads w B size A m news) (h1 : ∀ u ∈ news, u.oneCell' = true)
  (h63 : n + m ≤ maxLen) (hbytes : (n + m) * bytes ≤ 140737488355328) (hbase : base ≤ w.heap.size)
  (h : ∀ v' w', w'.ownsRow base e size v' (n + m) (xs ++ news) → w.grownBy w' v.ownBlock → (v'.ownBlock = v.ownBlock ∨ v'.ownBlock = some w.heap.size) → wpList P ops Q rest (a.put o.dst v') w') : wpList P ops Q (o :: rest) a w :=
 wpList_plain hgd fun _ hK => wp_append_any w s x t ho base e i z size bytes ht hi hz hsize hby hzs hsz v n xs hs hown B A m c news hx hr h1 h63 hbytes hbase fun v' w' h2 h3 h4 => hK _ _ (h v' w' h2 h3 h4)
end

def bcells (l : List UInt8) : List Value := l.map fun b => Value.int .u8 b.toNat
theorem bcells_length (l : List UInt8) : (bcells l).length = l.length := by simp [bcells]
theorem bcells_append (l m : List UInt8) : bcells (l ++ m) = bcells l ++ bcells m := by simp [bcells]
theorem bcells_one (l : List UInt8) : ∀ u ∈ bcells l, u.oneCell' = true := by
 intro u hu
 obtain ⟨b, _, rfl⟩ := List.mem_map.1 hu
 rfl

theorem run_string_reads {P : Program} (w : World) (src dst e : TypeId) {B n : Nat} {A : Option Addr} (c : Nat) {l : List UInt8} (hs : P.underlying src = some (.slice e)) (he : P.underlying e = some (.int .u8)) (hd : P.underlying dst = some .string)
  (h : Reads w B 1 A n (bcells l)) : (convert src dst (.slice A n c)).run P w = .ok (.string ⟨l.toArray⟩) w := by
 have hn : l.length = n := by have := h.1; rw [bcells_length] at this; omega
 subst hn
 rcases A with _ | ad
 ·have h0 : l = [] := by
   rcases l with _ | ⟨x, l⟩
   ·rfl
   ·obtain ⟨ad, e, _⟩ := h.2 (by simp)
    cases e
  subst h0
  exact Lib.run_convert_nil_bytes w src dst e c hs he hd
 ·refine run_convert_bytes_back w src dst e ad c l hs he hd fun j hj => ?_
  obtain ⟨ad', u, e1, _, hx, hc⟩ := h.at_ hj
  injection e1 with e1
  subst e1
  rw [hc]
  simp [bcells, hj] at hx
  rw [hx]

theorem below_of_grown {w w' : World} {B g : Nat} (h : w.grownBy w' (some g)) (hg : B ≤ g) (hB : B ≤ w.heap.size) : Below B w w' := (Below.refl _ _).grown h hB (by rintro k ⟨⟩; exact hg)
theorem below_drewN {B : Nat} {a w : World} (h : Below B a w) (n : Nat) : Below B a (w.drewN n) := ⟨h.os, h.tape, h.output, h.size, h.block⟩
theorem cell_in {w w' : World} {B : Nat} {ad : Addr} {k : Nat} {v : Option Value} (hc : w.cell? (ad.add k) = v) (hb : Below B w w') (hab : ad.block < B) : w'.cell? (ad.add k) = v :=
 (hb.cell (p := ad.add k) (by rw [block_add]; exact hab)).trans hc
/-! Slices of pairs of integers. -/
open Go.Deep (open_slice_pairs choose_lt)
end Go.Proofs.YtmmjckokjmpfpaaGreat

namespace Go.Proofs.YtmmjckokjmpfpaaGreat
open Go.RowKit

def rowsOf {α : Type} (f : α → List Value) (l : List α) : List Value := l.flatMap f
section
variable {α : Type} {f : α → List Value} {k : Nat}
theorem rowsOf_length (hf : ∀ x, (f x).length = k) : ∀ l : List α, (rowsOf f l).length = l.length * k
 | [] => by simp [rowsOf]
 | x :: l => by
  have ih := rowsOf_length hf l
  simp only [rowsOf, List.flatMap_cons, List.length_append, hf x, List.length_cons] at ih ⊢
  rw [ih, Nat.add_mul, Nat.one_mul, Nat.add_comm]
theorem rowsOf_append (l m : List α) : rowsOf f (l ++ m) = rowsOf f l ++ rowsOf f m := by simp [rowsOf]
theorem rowsOf_get (hf : ∀ x, (f x).length = k) : ∀ (l : List α) (i j : Nat) (x : α), l[i]? = some x → j < k → (rowsOf f l)[i * k + j]? = (f x)[j]?
 | [], i, j, x, h, _ => by simp at h
 | y :: l, 0, j, x, h, hj => by
  simp at h
  subst h
  simp only [rowsOf, List.flatMap_cons, Nat.zero_mul, Nat.zero_add]
  rw [List.getElem?_append_left (by rw [hf]; exact hj)]
 | y :: l, i + 1, j, x, h, hj => by
  have ih := rowsOf_get hf l i j x (by simpa using h) hj
  simp only [rowsOf, List.flatMap_cons] at ih ⊢
  rw [List.getElem?_append_right (by rw [hf, Nat.add_mul]; omega), hf, show (i + 1) * k + j - k = i * k + j by rw [Nat.add_mul]; omega]
  exact ih
theorem rowsOf_drop (hf : ∀ x, (f x).length = k) : ∀ (l : List α) (n : Nat), (rowsOf f l).drop (n * k) = rowsOf f (l.drop n)
 | l, 0 => by simp
 | [], n + 1 => by simp [rowsOf]
 | y :: l, n + 1 => by
  have ih := rowsOf_drop hf l n
  simp only [rowsOf, List.flatMap_cons, List.drop_succ_cons] at ih ⊢
  rw [Nat.add_mul, Nat.one_mul, Nat.add_comm (n * k) k, ← List.drop_drop, List.drop_left' (hf y)]
  exact ih
theorem rowsOf_take (hf : ∀ x, (f x).length = k) : ∀ (l : List α) (n : Nat), (rowsOf f l).take (n * k) = rowsOf f (l.take n)
 | l, 0 => by simp [rowsOf]
 | [], n + 1 => by simp [rowsOf]
 | y :: l, n + 1 => by
  have ih := rowsOf_take hf l n
  simp only [rowsOf, List.flatMap_cons, List.take_succ_cons] at ih ⊢
  rw [Nat.add_mul, Nat.one_mul, Nat.add_comm (n * k) k, List.take_append, hf y, List.take_of_length_le (by rw [hf y]; omega), show k + n * k - k = n * k by omega, ih]
theorem row_at (hf : ∀ x, (f x).length = k) (hk : 0 < k) {w : World} {B n i : Nat} {A : Option Addr} {l : List α} (h : Reads w B k A n (rowsOf f l)) (hi : i < n) :
  ∃ ad x, A = some ad ∧ ad.block < B ∧ l[i]? = some x ∧ ∀ j u, (f x)[j]? = some u → w.cell? ((ad.add (i * k)).add j) = some u := by
 obtain ⟨ad, hA, hb, hc⟩ := h.2 (by omega)
 have hl : l.length = n := by
  have := h.1
  rw [rowsOf_length hf] at this
  exact Nat.eq_of_mul_eq_mul_right hk this
 have hi' : i < l.length := by omega
 refine ⟨ad, l[i], hA, hb, List.getElem?_eq_getElem hi', fun j u hu => ?_⟩
 have hj : j < k := by rw [← hf l[i]]; exact (List.getElem?_eq_some_iff.1 hu).1
 rw [add_add]
 exact hc _ u (by rw [rowsOf_get hf l i j l[i] (List.getElem?_eq_getElem hi') hj]; exact hu)
theorem rows_len (hf : ∀ x, (f x).length = k) (hk : 0 < k) {w : World} {B n : Nat} {A : Option Addr} {l : List α} (h : Reads w B k A n (rowsOf f l)) : l.length = n := by
 have := h.1
 rw [rowsOf_length hf] at this
 exact Nat.eq_of_mul_eq_mul_right hk this
theorem rows_take (hf : ∀ x, (f x).length = k) {w : World} {B n m : Nat} {A : Option Addr} {l : List α} (h : Reads w B k A n (rowsOf f l)) (hm : m ≤ n) : Reads w B k A m (rowsOf f (l.take m)) := by
 rw [← rowsOf_take hf]
 have hnm : m * k ≤ n * k := Nat.mul_le_mul_right k hm
 refine ⟨by rw [List.length_take, h.1]; omega, fun h0 => ?_⟩
 obtain ⟨ad, hA, hb, hc⟩ := h.2 (by omega)
 refine ⟨ad, hA, hb, fun j u hu => hc j u ?_⟩
 rw [List.getElem?_take] at hu
 split at hu
 ·exact hu
 ·cases hu
theorem rows_drop (hf : ∀ x, (f x).length = k) {w : World} {B n m cap : Nat} {A : Option Addr} {l : List α} (h : Reads w B k A n (rowsOf f l)) (hm : m ≤ n) (hc : n ≤ cap) : Reads w B k (if cap = m then A else A.map (·.add (m * k))) (n - m) (rowsOf f (l.drop m)) := by
 rw [← rowsOf_drop hf]
 exact h.cut hm hc
end
theorem step_append_any {P : Program} {w : World} {ops : Array Oper} {o : Oper} {a : Act} {K : Act → World → Prop} {Q : Exit → Act → World → Prop} {E : Prop} (hgd : o.guard = none) (s x : Operand) (t : TypeId)
  (ho : o.op = .call { callee := .builtin .append, args := #[s, x], argTypes := #[t, t] })
  (base : Nat) (e : TypeId) (i : TypeInfo) (z : Value) (size bytes : Nat) (ht : P.underlying t = some (.slice e)) (hi : P.info? e = some i) (hz : i.zero = some z)
  (hsize : i.size = size) (hby : i.bytes = bytes) (hzs : z.cells.size = size) (hsz : 0 < size)
  (v : Value) (n : Nat) (xs : List Value) (hs : a.eval s = v) (hown : w.ownsRow base e size v n xs)
  (B : Nat) (A : Option Addr) (m c : Nat) (news : List Value) (hx : a.eval x = .slice A m c) (hr : Reads w B size A m news) (h1 : ∀ u ∈ news, u.oneCell' = true)
  (h63 : n + m ≤ maxLen) (hbytes : (n + m) * bytes ≤ 140737488355328) (hbase : base ≤ w.heap.size)
  (h : ∀ v' w', w'.ownsRow base e size v' (n + m) (xs ++ news) → w.grownBy w' v.ownBlock → (v'.ownBlock = v.ownBlock ∨ v'.ownBlock = some w.heap.size) → K (a.put o.dst v') w') :
  if Region.wanted o (yielded ops a.tmps) = true then Oper.wp P o a w K Q else E := by
 have hw : Region.wanted o (yielded ops a.tmps) = true := by simp [Region.wanted, hgd]
 rw [if_pos hw]
 exact wp_append_any w s x t ho base e i z size bytes ht hi hz hsize hby hzs hsz v n xs hs hown B A m c news hx hr h1 h63 hbytes hbase h
end Go.Proofs.YtmmjckokjmpfpaaGreat

namespace Go.Proofs.YtmmjckokjmpfpaaGreat
open Go.Lib

theorem leNat_lt : ∀ l : List UInt8, leNat l < 2 ^ (8 * l.length)
 | [] => by simp [leNat]
 | b :: l => by
  have h := leNat_lt l
  have hb := b.toNat_lt
  simp only [leNat, List.length_cons, Nat.mul_add, Nat.pow_add]
  omega
theorem leNat_snoc : ∀ (l : List UInt8) (b : UInt8), leNat (l ++ [b]) = leNat l + b.toNat * 2 ^ (8 * l.length)
 | [], b => by simp [leNat]
 | c :: l, b => by
  have h := leNat_snoc l b
  simp only [List.cons_append, leNat, h, List.length_cons, Nat.mul_add, Nat.pow_add]
  have e : b.toNat * (2 ^ (8 * l.length) * 2 ^ (8 * 1)) = 256 * (b.toNat * 2 ^ (8 * l.length)) := by
   rw [← Nat.mul_assoc, Nat.mul_comm]
  omega
theorem leBytes_snoc : ∀ (k v : Nat), Go.leBytes (k + 1) v = Go.leBytes k v ++ [(v / 2 ^ (8 * k) % 256).toUInt8]
 | 0, v => by simp [Go.leBytes]
 | k + 1, v => by
  rw [Go.leBytes, leBytes_snoc k, Go.leBytes, List.cons_append]
  congr 4
  rw [Nat.div_div_eq_div_mul, show 8 * (k + 1) = 8 + 8 * k by omega, Nat.pow_add]
theorem leB_len : ∀ (k v : Nat), (Go.leBytes k v).length = k
 | 0, _ => rfl
 | k + 1, v => by simp [Go.leBytes, leB_len k]
theorem leNat_leBytes_mod : ∀ (k v : Nat), leNat (Go.leBytes k v) = v % 2 ^ (8 * k)
 | 0, v => by simp [Go.leBytes, leNat, Nat.mod_one]
 | k + 1, v => by
  rw [Go.leBytes, leNat, leNat_leBytes_mod k, toUInt8_mod, show 8 * (k + 1) = 8 + 8 * k by omega, Nat.pow_add, Nat.mod_mul]

theorem pow_small {k : Nat} (hk : k < 8) : 2 ^ (8 * k) ≤ 2 ^ 56 := Nat.pow_le_pow_right (by omega) (by omega)

theorem or_step (n k : Nat) (b : UInt8) (hk : k < 8) (hn : n < 2 ^ (8 * k)) :
  bits .or .u64 (n : Int) (IntKind.u64.wrap (IntKind.u64.wrap (b.toNat : Int) * 2 ^ (8 * k))) = ((n + b.toNat * 2 ^ (8 * k) : Nat) : Int) := by
 have hp := pow_small hk
 have hb := b.toNat_lt
 have h2 : b.toNat * 2 ^ (8 * k) < 2 ^ 64 := by
  have : b.toNat * 2 ^ (8 * k) ≤ 255 * 2 ^ 56 := Nat.mul_le_mul (by omega) hp
  omega
 have e1 : IntKind.u64.wrap (b.toNat : Int) = (b.toNat : Int) := by rw [IntKind.wrap_u64]; omega
 have e2 : (b.toNat : Int) * 2 ^ (8 * k) = ((b.toNat * 2 ^ (8 * k) : Nat) : Int) := by simp
 rw [e1, e2, IntKind.wrap_u64, show ((b.toNat * 2 ^ (8 * k) : Nat) : Int) % 18446744073709551616 = ((b.toNat * 2 ^ (8 * k) : Nat) : Int) by omega]
 rw [bits_or_u64_nat _ _ (by omega) (by omega), Nat.or_comm, nat_join (8 * k) _ _ (Nat.mul_mod_left _ _) hn]
 congr 1
 omega
theorem take_snoc {α : Type} (l : List α) (k : Nat) (h : k < l.length) : l.take (k + 1) = l.take k ++ [l[k]] := by
 rw [List.take_succ_eq_append_getElem h]

def zeros (l : List UInt8) : Bool := l.all (· == 0)
theorem zeros_snoc (l : List UInt8) (b : UInt8) : zeros (l ++ [b]) = (zeros l && b == 0) := by simp [zeros]
theorem zeros_at {l : List UInt8} {k : Nat} (h : k < l.length) (hb : l[k] ≠ 0) : zeros l = false := by
 rw [Bool.eq_false_iff]
 intro hz
 have := List.all_eq_true.1 hz l[k] (List.getElem_mem h)
 simp at this
 exact hb this
/-! Go's '%' cuts towards nought. -/
/-! Parts of a string. -/
theorem ext_rest (a : ByteArray) (p m : Nat) (_hp : p + m ≤ a.size) : (a.extract p a.size).extract m (a.extract p a.size).size = a.extract (p + m) a.size := by
 rw [ByteArray.extract_extract, ByteArray.size_extract]; congr 1; omega
theorem ext_all (a : ByteArray) : a.extract 0 a.size = a := by simp
end Go.Proofs.YtmmjckokjmpfpaaGreat

namespace Go.Proofs.YtmmjckokjmpfpaaGreat
open Go.RowKit
theorem infoRd : (Tryz.prog.info? 209).map (fun i => (i.zero, i.size, i.bytes)) = some (some (.agg #[.pointer none, .string ByteArray.empty]), 2, 24) := by kernel_rfl
theorem infoU8 : (Tryz.prog.info? 5).map (fun i => (i.zero, i.size, i.bytes)) = some (some (.int .u8 0), 1, 1) := by kernel_rfl

def IsRd (w : World) (g : Nat) (s : ByteArray) : Prop := Blk w g 209 #[.pointer (some ⟨g, 0, none⟩), .string s]

theorem valid_yes {w : World} {g : Nat} {s : ByteArray} (h : IsRd w g s) :
  Calls Tryz.prog 160 #[.pointer (some ⟨g, 0, none⟩)] w fun e w' => e = .returned (.bool true) ∧ w = w' := by
 obtain ⟨i0, hi0, hz0, hz1, hz2⟩ := info_parts infoRd
 have c0 := Blk.cell h 0
 simp at c0
 have heq := run_eql_ptr_same w ⟨g, 0, none⟩ Tryz.underlying189 hi0
 go_enter Tryz.func160, Tryz.ntmps160
 go_wp2
 go_ret
 exact ⟨rfl, rfl⟩

theorem width_any (n : Int) (w : World) :
  Calls Tryz.prog 161 #[.int .i64 n] w fun e w' => e = .returned (.bool (decide (1 ≤ n) && decide (n ≤ 8))) ∧ w = w' := by
 by_cases h1 : 1 ≤ n <;> by_cases h2 : n ≤ 8 <;> go_enter Tryz.func161, Tryz.ntmps161 <;> go_wp2 <;> go_ret <;> exact ⟨by simp [h1, h2], rfl⟩

theorem new_any (s : ByteArray) (w : World) :
  Calls Tryz.prog 120 #[.string s] w fun e w' => e = .returned (.pointer (some ⟨w.heap.size, 0, none⟩)) ∧ w' = w.alloc (.cells #[.pointer (some ⟨w.heap.size, 0, none⟩), .string s] 209) := by
 go_enter Tryz.func120, Tryz.ntmps120
 go_wp2
 go_ret
 exact ⟨rfl, rfl⟩
open Go.Lib
theorem getElem_toList (s : ByteArray) (k : Nat) (h : k < s.size) : s.data.toList[k]'(by simpa using h) = s[k] := rfl
theorem number_any (s : ByteArray) (w : World) (hs : s.size ≤ 8) :
  Calls Tryz.prog 163 #[.string s] w fun e w' => e = .returned (.int .u64 (leNat s.data.toList)) ∧ w = w' := by
 go_enter Tryz.func163, Tryz.ntmps163
 go_wp2
 go_loop [3, 7] (fun n i => ∃ k : Nat, k ≤ s.size ∧ i = .int .i64 k ∧ n = .int .u64 (leNat (s.data.toList.take k))) (fun _ i => s.size - (RowKit.intOf i).toNat)
 case atStart => exact ⟨0, Nat.zero_le _, rfl, rfl⟩
 case round =>
  obtain ⟨k, hk, rfl, rfl⟩ := hrel
  by_cases hlt : k < s.size
  ·go_wp2
   go_round
   case rel =>
    refine ⟨k + 1, by omega, by go_num, ?_⟩
    have hl : (s.data.toList.take k).length = k := by simp; omega
    have h1 := leNat_lt (s.data.toList.take k)
    have h2 := leNat_snoc (s.data.toList.take k) s[k]
    rw [hl] at h1 h2
    rw [or_step _ k s[k] (by omega) h1, take_snoc _ k (by simpa using hlt), ← h2]
    rfl
   case measure => simp [RowKit.intOf]; omega
  ·go_wp2
   go_ret
   refine ⟨?_, rfl⟩
   rw [List.take_of_length_le (by simp; omega)]; rfl
theorem zero_any (s : ByteArray) (w : World) (hs : s.size ≤ maxLen) :
  Calls Tryz.prog 137 #[.string s] w fun e w' => e = .returned (.bool (zeros s.data.toList)) ∧ w = w' := by
 unfold maxLen at hs
 go_enter Tryz.func137, Tryz.ntmps137
 go_wp2
 go_loop [3, 6] (fun _ i => ∃ k : Nat, k ≤ s.size ∧ i = .int .i64 k ∧ Hid (zeros (s.data.toList.take k) = true)) (fun _ i => s.size - (RowKit.intOf i).toNat)
 case atStart => exact ⟨0, Nat.zero_le _, rfl, rfl⟩
 case round =>
  obtain ⟨k, hk, rfl, HZ⟩ := hrel
  by_cases hlt : k < s.size
  ·go_wp2
   ·have hne : ((s[k].toNat : Int) != 0) = true := by assumption
    go_ret
    refine ⟨?_, rfl⟩
    have hk' : k < s.data.toList.length := by simpa using hlt
    rw [zeros_at hk' (fun h => by rw [getElem_toList s k hlt] at h; simp [h] at hne)]; rfl
   ·have hne : ((s[k].toNat : Int) != 0) = false := by assumption
    go_round
    case rel =>
     refine ⟨k + 1, by omega, by go_num, ?_⟩
     show zeros _ = true
     rw [take_snoc _ k (by simpa using hlt), zeros_snoc, HZ.out]
     have h0 : s[k].toNat = 0 := by simpa using hne
     rw [getElem_toList]
     simp
     exact UInt8.toNat_inj.1 (by simpa using h0)
    case measure => simp [RowKit.intOf]; omega
  ·go_wp2
   go_ret
   refine ⟨?_, rfl⟩
   have := HZ.out
   rw [List.take_of_length_le (by simp; omega)] at this
   rw [this]; rfl
theorem oneCell_one {u : Value} (h : u.oneCell' = true) : ∀ v ∈ [u], v.oneCell' = true := by
 intro v hv; simp at hv; subst hv; exact h
theorem reads_new (w : World) (cs : Array Value) (t : TypeId) (fr : Nat × Nat) : Reads (w.alloc (.cells cs t fr)) (w.heap.size + 1) 1 (some ⟨w.heap.size, 0, none⟩) cs.size cs.toList := by
 refine ⟨by simp, fun _ => ⟨_, rfl, Nat.lt_succ_self _, fun j u hu => ?_⟩⟩
 have e : (⟨w.heap.size, 0, none⟩ : Addr).add j = ⟨w.heap.size, j, none⟩ := by unfold Addr.add; split <;> simp_all
 rw [e, World.cell?_alloc_mark]
 simpa using hu
theorem byte_cell (num j : Nat) : [Value.int .u8 ((num : Int) / 2 ^ (8 * j) % 256)] = bcells [(num / 2 ^ (8 * j) % 256).toUInt8] := by
 simp [bcells]
theorem put_yes (A : Option Addr) (n c num k : Nat) (l : List UInt8) (w : World) (hr : Reads w w.heap.size 1 A n (bcells l)) (hn : n + 8 ≤ 140737488355328) (h1 : 1 ≤ k) (h2 : k ≤ 8) :
  Calls Tryz.prog 166 #[.slice A n c, .int .u64 num, .int .i64 k] w fun e w' => ∃ v, e = .returned v ∧ w'.ownsRow w.heap.size 5 1 v (n + k) (bcells (l ++ Go.leBytes k num)) ∧ Below w.heap.size w w' := by
 obtain ⟨i0, hi0, hz0, hz1, hz2⟩ := info_parts infoU8
 have h1' : (1 : Int) ≤ k := by omega
 have h2' : (k : Int) ≤ 8 := by omega
 have hb : (decide ((1 : Int) ≤ k) && decide ((k : Int) ≤ 8)) = true := by simp; omega
 go_enter Tryz.func166, Tryz.ntmps166
 go_wp2_with (first
  | (go_at_call 161; refine (width_any _ _).mono ?_; rintro e w' ⟨rfl, rfl⟩)
  | (at_make; refine wpList_make_own _ rfl _ _ 102 rfl w.heap.size 5 i0 _ 1 Tryz.underlying102 hi0 hz0 hz1 _ _ _ (n + k) rfl rfl (by omega) (by rw [hz2]; omega) (by unfold maxLen; omega) (Nat.le_refl _) ?_; intro w1 hown1 hg1)
  | (at_builtin; refine wpList_append_any _ rfl (.tmp 17) (.tmp 18) _ rfl w.heap.size 5 i0 _ 1 1 Tryz.underlying102 hi0 hz0 hz1 hz2 rfl (by omega) _ 0 [] rfl hown1 w.heap.size A n c _ rfl (hr.below ((Below.refl _ _).grown hg1 (Nat.le_refl _) (by simp))) (bcells_one _) (by unfold maxLen; omega) (by omega) hg1.size ?_; intro v2 w2 hown2 hg2 hat2))
 have hb2 : Below w.heap.size w w2 := ((Below.refl _ _).grown hg1 (Nat.le_refl _) (by simp)).grown hg2 hg1.size (by rintro g ⟨⟩; exact Nat.le_refl _)
 clear hg1 hg2 hown1 hat2
 go_loopw [7, 21] (fun v i wr => ∃ j : Nat, j ≤ k ∧ i = .int .i64 j ∧ wr.ownsRow w.heap.size 5 1 v (n + j) (bcells (l ++ Go.leBytes j num)) ∧ Below w.heap.size w wr) (fun _ i _ => k - (RowKit.intOf i).toNat)
 case atStart => exact ⟨0, Nat.zero_le _, rfl, by simpa [Go.leBytes] using hown2, hb2⟩
 case round =>
  obtain ⟨j, hj, rfl, hown, hbr⟩ := hrel
  by_cases hlt : j < k
  ·go_wp2_with (first
    | (at_builtin; refine wpList_append_any _ rfl (.tmp 24) (.tmp 30) _ rfl w.heap.size 5 i0 _ 1 1 Tryz.underlying102 hi0 hz0 hz1 hz2 rfl (by omega) _ (n + j) _ rfl (hown.alloc _) (wr.heap.size + 1) (some ⟨wr.heap.size, 0, none⟩) 1 1 [Value.int .u8 ((num : Int) / 2 ^ (8 * j) % 256)] rfl (reads_new _ _ _ _) (oneCell_one rfl) (by unfold maxLen; omega) (by omega) (by have := hbr.size; simp; omega) ?_; intro v3 w3 hown3 hg3 hat3))
   go_roundw
   case rel =>
    refine ⟨j + 1, by omega, by go_num, ?_, ?_⟩
    ·rw [leBytes_snoc, ← List.append_assoc, bcells_append, ← byte_cell]
     exact hown3
    ·exact (hbr.alloc hbr.size _).grown hg3 (by have := hbr.size; simp; omega) (fun g hg => (hown.lt g hg).1)
   case measure => simp [RowKit.intOf]; omega
  ·go_wp2
   go_ret
   have : j = k := by omega
   subst this
   exact ⟨_, rfl, hown, hbr⟩


theorem bytes_more {w : World} {g : Nat} {s : ByteArray} (h : IsRd w g s) (n : Int) (hn : (s.size : Int) < n) :
  Calls Tryz.prog 162 #[.pointer (some ⟨g, 0, none⟩), .int .i64 n] w fun e w' => e = .returned (.tuple #[.string ⟨#[]⟩, .int .i64 7]) ∧ w = w' := by
 have c1 := Blk.cell h 1
 simp at c1
 have h0 : ¬ n < 0 := by omega
 go_enter Tryz.func162, Tryz.ntmps162
 go_wp2_with (go_at_call 160; refine (valid_yes h).mono ?_; rintro e w' ⟨rfl, rfl⟩)
 go_ret2
 exact ⟨rfl, rfl⟩
theorem bytes_ok {w : World} {g : Nat} {s : ByteArray} (h : IsRd w g s) (n : Nat) (hn : n ≤ s.size)  :
  Calls Tryz.prog 162 #[.pointer (some ⟨g, 0, none⟩), .int .i64 n] w fun e w' => e = .returned (.tuple #[.string (s.extract 0 n), .int .i64 0]) ∧ w' = w.setCell ⟨g, 1, none⟩ (.string (s.extract n s.size)) := by
 have c1 := Blk.cell h 1
 simp at c1
 have f1 := Blk.frozen h 1
 go_enter Tryz.func162, Tryz.ntmps162
 go_wp2_with (go_at_call 160; refine (valid_yes h).mono ?_; rintro e w' ⟨rfl, rfl⟩)
 go_ret2
 exact ⟨rfl, rfl⟩
theorem rest_any {w : World} {g : Nat} {s : ByteArray} (h : IsRd w g s) :
  Calls Tryz.prog 138 #[.pointer (some ⟨g, 0, none⟩)] w fun e w' => e = .returned (.string s) ∧ w = w' := by
 have c1 := Blk.cell h 1
 simp at c1
 go_enter Tryz.func138, Tryz.ntmps138
 go_wp2_with (go_at_call 160; refine (valid_yes h).mono ?_; rintro e w' ⟨rfl, rfl⟩)
 go_ret
 exact ⟨rfl, rfl⟩
theorem number_more {w : World} {g : Nat} {s : ByteArray} (h : IsRd w g s) (n : Int) (h1 : 1 ≤ n) (h2 : n ≤ 8) (hn : (s.size : Int) < n) :
  Calls Tryz.prog 139 #[.pointer (some ⟨g, 0, none⟩), .int .i64 n] w fun e w' => e = .returned (.tuple #[.int .u64 0, .int .i64 7]) ∧ w = w' := by
 have hb : (decide ((1 : Int) ≤ n) && decide (n ≤ 8)) = true := by simp; omega
 go_enter Tryz.func139, Tryz.ntmps139
 go_wp2_with (first
  | (go_at_call 160; refine (valid_yes h).mono ?_; rintro e w' ⟨rfl, rfl⟩)
  | (go_at_call 161; refine (width_any _ _).mono ?_; rw [hb]; rintro e w' ⟨rfl, rfl⟩)
  | (go_at_call 162; refine (bytes_more h _ hn).mono ?_; rintro e w' ⟨rfl, rfl⟩))
 go_ret2
 exact ⟨rfl, rfl⟩
theorem number_ok {w : World} {g : Nat} {s : ByteArray} (h : IsRd w g s) (n : Nat) (h1 : 1 ≤ n) (h2 : n ≤ 8) (hn : n ≤ s.size) :
  Calls Tryz.prog 139 #[.pointer (some ⟨g, 0, none⟩), .int .i64 n] w fun e w' => e = .returned (.tuple #[.int .u64 (leNat (s.data.toList.take n)), .int .i64 0]) ∧ w' = w.setCell ⟨g, 1, none⟩ (.string (s.extract n s.size)) := by
 have hb : (decide ((1 : Int) ≤ n) && decide ((n : Int) ≤ 8)) = true := by simp; omega
 have hsz : (s.extract 0 n).size ≤ 8 := by simp; omega
 have hdat : (s.extract 0 n).data.toList = s.data.toList.take n := by simp
 go_enter Tryz.func139, Tryz.ntmps139
 go_wp2_with (first
  | (go_at_call 160; refine (valid_yes h).mono ?_; rintro e w' ⟨rfl, rfl⟩)
  | (go_at_call 161; refine (width_any _ _).mono ?_; rw [hb]; rintro e w' ⟨rfl, rfl⟩)
  | (go_at_call 162; refine (bytes_ok h n hn).mono ?_; rintro e w' ⟨rfl, rfl⟩)
  | (go_at_call 163; refine (number_any _ _ hsz).mono ?_; rw [hdat]; rintro e w' ⟨rfl, rfl⟩))
 go_ret2
 exact ⟨rfl, rfl⟩
/-! The same, where the world behind is told by what it is good for: only the reader's block has turned. -/
theorem IsRd.stored {w : World} {g : Nat} {s : ByteArray} (h : IsRd w g s) (s' : ByteArray) : IsRd (w.setCell ⟨g, 1, none⟩ (.string s')) g s' ∧ w.grownBy (w.setCell ⟨g, 1, none⟩ (.string s')) (some g) := by
 refine ⟨Blk.set_ h 1 _, rfl, rfl, rfl, by simp [World.setCell], fun k _ hne => Below.heap_setCell _ _ _ _ (fun e => hne (by rw [e]))⟩
theorem bytes_ok' {w : World} {g : Nat} {s : ByteArray} (h : IsRd w g s) (n : Nat) (hn : n ≤ s.size) :
  Calls Tryz.prog 162 #[.pointer (some ⟨g, 0, none⟩), .int .i64 n] w fun e w' => e = .returned (.tuple #[.string (s.extract 0 n), .int .i64 0]) ∧ IsRd w' g (s.extract n s.size) ∧ w.grownBy w' (some g) :=
 (bytes_ok h n hn).mono fun _ _ ⟨he, hw⟩ => ⟨he, by subst hw; exact h.stored _⟩
theorem number_ok' {w : World} {g : Nat} {s : ByteArray} (h : IsRd w g s) (n : Nat) (h1 : 1 ≤ n) (h2 : n ≤ 8) (hn : n ≤ s.size) :
  Calls Tryz.prog 139 #[.pointer (some ⟨g, 0, none⟩), .int .i64 n] w fun e w' => e = .returned (.tuple #[.int .u64 (leNat (s.data.toList.take n)), .int .i64 0]) ∧ IsRd w' g (s.extract n s.size) ∧ w.grownBy w' (some g) :=
 (number_ok h n h1 h2 hn).mono fun _ _ ⟨he, hw⟩ => ⟨he, by subst hw; exact h.stored _⟩
theorem new_any' (s : ByteArray) (w : World) :
  Calls Tryz.prog 120 #[.string s] w fun e w' => e = .returned (.pointer (some ⟨w.heap.size, 0, none⟩)) ∧ IsRd w' w.heap.size s ∧ Below w.heap.size w w' ∧ w.heap.size < w'.heap.size :=
 (new_any s w).mono fun _ _ ⟨he, hw⟩ => ⟨he, by subst hw; exact ⟨Blk.new _ _ _, (Below.refl _ _).alloc (Nat.le_refl _) _, by simp⟩⟩
end Go.Proofs.YtmmjckokjmpfpaaGreat

