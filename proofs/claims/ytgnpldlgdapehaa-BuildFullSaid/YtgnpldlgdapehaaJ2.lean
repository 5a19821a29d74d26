/-
  Texts that the main proof rests on, put together: BuCut, Bytes, OwnW, Kept, StructRows, It, Fk, Good, Bk, Ref6Find, Order, BuGr, PgWords, BkOpen. No statement is proved here.
-/
import Derived.Test.YtgnpldlgdapehaaJ1
import Derived.Laws.MakeOwn
import Derived.Laws.CopyRow
import Derived.Laws.AppendOwn
import Derived.Sort.Walk0
import Derived.Deep.DrawnRows
import Derived.Lib.Hide
import Derived.Deep.RegionHeld3
import Derived.Laws.ResultCell
import Derived.Deep.WholeRow
import Derived.Deep.Slices
import Derived.ChangeSame
import Derived.SizedLaws
set_option linter.unusedVariables false
set_option linter.unusedSimpArgs false
namespace Go.Proofs.Ytgnpldlgdapehaa
open Go.RowKit

def cutAt (l : List Int) (room : Int) : Nat → Option (List Nat × Int)
 | 0 => some ([], room)
 | k + 1 => (cutAt l room k).bind fun t => if l.getD k 0 < 0 ∨ room < l.getD k 0 then none else if t.2 < l.getD k 0 then some (t.1 ++ [k], room - l.getD k 0) else some (t.1, t.2 - l.getD k 0)
def cutL (l : List Int) (room : Int) : List Nat :=
 match cutAt l room l.length with
 | none => []
 | some t => if l = [] then [] else t.1 ++ [l.length]
theorem cutAt_none {l : List Int} {room : Int} {k : Nat} (h : cutAt l room k = none) : ∀ j, cutAt l room (k + j) = none
 | 0 => h
 | j + 1 => by
  have h1 := cutAt_none h j
  show (cutAt l room (k + j)).bind _ = none
  rw [h1]
  rfl
theorem cutL_none {l : List Int} {room : Int} {k : Nat} (h : cutAt l room k = none) (hk : k ≤ l.length) : cutL l room = [] := by
 have h1 := cutAt_none h (l.length - k)
 rw [show k + (l.length - k) = l.length by omega] at h1
 unfold cutL
 rw [h1]
theorem cutL_some {l : List Int} {room : Int} {E : List Nat} {left : Int} (h : cutAt l room l.length = some (E, left)) (h0 : l ≠ []) : cutL l room = E ++ [l.length] := by
 unfold cutL
 rw [h]
 simp only [if_neg h0]
theorem cutAt_bad {l : List Int} {room : Int} {k : Nat} {E : List Nat} {left : Int} (h : cutAt l room k = some (E, left)) (h1 : l.getD k 0 < 0 ∨ room < l.getD k 0) : cutAt l room (k + 1) = none := by
 show (cutAt l room k).bind _ = none
 rw [h]
 exact if_pos h1
theorem cutAt_new {l : List Int} {room : Int} {k : Nat} {E : List Nat} {left : Int} (h : cutAt l room k = some (E, left)) (h1 : ¬ (l.getD k 0 < 0 ∨ room < l.getD k 0)) (h2 : left < l.getD k 0) : cutAt l room (k + 1) = some (E ++ [k], room - l.getD k 0) := by
 show (cutAt l room k).bind _ = _
 rw [h]
 show (if _ then _ else _) = _
 rw [if_neg h1, if_pos h2]
theorem cutAt_old {l : List Int} {room : Int} {k : Nat} {E : List Nat} {left : Int} (h : cutAt l room k = some (E, left)) (h1 : ¬ (l.getD k 0 < 0 ∨ room < l.getD k 0)) (h2 : ¬ left < l.getD k 0) : cutAt l room (k + 1) = some (E, left - l.getD k 0) := by
 show (cutAt l room k).bind _ = _
 rw [h]
 show (if _ then _ else _) = _
 rw [if_neg h1, if_neg h2]
theorem cutAt_left {l : List Int} {room : Int} : ∀ {k : Nat} {E : List Nat} {left : Int}, cutAt l room k = some (E, left) → (0 < k → 0 ≤ left) ∧ left ≤ room ∧ E.length ≤ k ∧ ∀ e ∈ E, e < k
 | 0, E, left, h => by
  have h : some ([], room) = some (E, left) := h
  injection h with h
  injection h with h1 h2
  subst h1 h2
  simp
 | k + 1, E, left, h => by
  cases hk : cutAt l room k with
  | none =>
   have := cutAt_none hk 1
   rw [this] at h
   cases h
  | some t =>
   obtain ⟨E0, left0⟩ := t
   obtain ⟨a, b, c, d⟩ := cutAt_left hk
   by_cases h1 : l.getD k 0 < 0 ∨ room < l.getD k 0
   ·rw [cutAt_bad hk h1] at h; cases h
   ·by_cases h2 : left0 < l.getD k 0
    ·rw [cutAt_new hk h1 h2] at h
     injection h with h
     injection h with e1 e2
     subst e1 e2
     refine ⟨fun _ => by omega, by omega, by simp; omega, fun e he => ?_⟩
     rcases List.mem_append.1 he with he | he
     ·have := d e he; omega
     ·simp at he; omega
    ·rw [cutAt_old hk h1 h2] at h
     injection h with h
     injection h with e1 e2
     subst e1 e2
     exact ⟨fun _ => by omega, by omega, by omega, fun e he => by have := d e he; omega⟩
theorem cutL_length (l : List Int) (room : Int) : (cutL l room).length ≤ l.length ∧ ∀ e ∈ cutL l room, e ≤ l.length := by
 unfold cutL
 cases h : cutAt l room l.length with
 | none => simp
 | some t =>
  obtain ⟨E, left⟩ := t
  by_cases h0 : l = []
  ·simp [h0]
  ·simp only [if_neg h0]
   obtain ⟨a, b, c, d⟩ := cutAt_left h
   have hp : 0 < l.length := List.length_pos_iff.2 h0
   refine ⟨?_, fun e he => ?_⟩
   ·have hlen : E.length < l.length := by
     -- the first size makes no end
     obtain ⟨m, hm⟩ : ∃ m, l.length = m + 1 := ⟨l.length - 1, by omega⟩
     have key : ∀ {k : Nat} {E : List Nat} {left : Int}, cutAt l room (k + 1) = some (E, left) → E.length ≤ k := by
      intro k
      induction k with
      | zero =>
       intro E left h
       by_cases h1 : l.getD 0 0 < 0 ∨ room < l.getD 0 0
       ·rw [cutAt_bad (E := []) (left := room) rfl h1] at h; cases h
       ·rw [cutAt_old (E := []) (left := room) rfl h1 (by omega)] at h
        injection h with h; injection h with e1 e2; subst e1; simp
      | succ k ih =>
       intro E left h
       cases hk : cutAt l room (k + 1) with
       | none => have := cutAt_none hk 1; rw [this] at h; cases h
       | some t =>
        obtain ⟨E0, left0⟩ := t
        have := ih hk
        by_cases h1 : l.getD (k + 1) 0 < 0 ∨ room < l.getD (k + 1) 0
        ·rw [cutAt_bad hk h1] at h; cases h
        ·by_cases h2 : left0 < l.getD (k + 1) 0
         ·rw [cutAt_new hk h1 h2] at h
          injection h with h; injection h with e1 e2; subst e1; simp; omega
         ·rw [cutAt_old hk h1 h2] at h
          injection h with h; injection h with e1 e2; subst e1; omega
     have := key (k := m) (E := E) (left := left) (by rw [← hm]; exact h)
     omega
    rw [List.length_append]
    simp
    omega
   ·rcases List.mem_append.1 he with he | he
    ·have := d e he; omega
    ·simp at he; omega
def partsBy {α : Type} (l : List α) : Nat → List Nat → List (List α)
 | _, [] => []
 | at_, e :: E => (l.drop at_).take (e - at_) :: partsBy l e E
theorem partsBy_append {α : Type} (l : List α) : ∀ (E F : List Nat) (s : Nat), partsBy l s (E ++ F) = partsBy l s E ++ partsBy l (E.getLast?.getD s) F
 | [], F, s => rfl
 | [e], F, s => by simp [partsBy]
 | e :: e2 :: E, F, s => by
  have h := partsBy_append l (e2 :: E) F e
  have hg : ((e :: e2 :: E).getLast?.getD s) = ((e2 :: E).getLast?.getD e) := by
   rw [List.getLast?_cons_cons]
   obtain ⟨x, hx⟩ : ∃ x, (e2 :: E).getLast? = some x := ⟨(e2 :: E).getLast (by simp), List.getLast?_eq_some_getLast _⟩
   rw [hx]; rfl
  rw [hg]
  show _ :: partsBy l e ((e2 :: E) ++ F) = _
  rw [h]
  rfl
theorem partsBy_length {α : Type} (l : List α) : ∀ (E : List Nat) (s : Nat), (partsBy l s E).length = E.length
 | [], s => rfl
 | e :: E, s => by simp [partsBy, partsBy_length l E]
def cutP {α : Type} (one : α → Int) (room : Int) (l : List α) : List (List α) := partsBy l 0 (cutL (l.map one) room)
theorem cutAt_fine {l : List Int} {room : Int} : ∀ {k : Nat} {t : List Nat × Int}, cutAt l room k = some t → ∀ j, j < k → 0 ≤ l.getD j 0 ∧ l.getD j 0 ≤ room
 | 0, t, h, j, hj => by omega
 | k + 1, t, h, j, hj => by
  cases hk : cutAt l room k with
  | none => rw [cutAt_none hk 1] at h; cases h
  | some t0 =>
   obtain ⟨E0, left0⟩ := t0
   by_cases h1 : l.getD k 0 < 0 ∨ room < l.getD k 0
   ·rw [cutAt_bad hk h1] at h; cases h
   ·by_cases hjk : j < k
    ·exact cutAt_fine hk j hjk
    ·obtain rfl : j = k := by omega
     omega
theorem cutAt_is {l : List Int} {room : Int} : ∀ {k : Nat}, (∀ j, j < k → 0 ≤ l.getD j 0 ∧ l.getD j 0 ≤ room) → ∃ E left, cutAt l room k = some (E, left)
 | 0, _ => ⟨_, _, rfl⟩
 | k + 1, h => by
  obtain ⟨E, left, h0⟩ := cutAt_is (l := l) (room := room) (k := k) (fun j hj => h j (by omega))
  have := h k (by omega)
  by_cases h2 : left < l.getD k 0
  ·exact ⟨_, _, cutAt_new h0 (by omega) h2⟩
  ·exact ⟨_, _, cutAt_old h0 (by omega) h2⟩

end Go.Proofs.Ytgnpldlgdapehaa

namespace Go.Proofs.Ytgnpldlgdapehaa
open Go.RowKit Go.Lib

def MRow (w : World) (g : Nat) (l : List UInt8) : Prop := g < w.heap.size ∧ ∀ j b, l[j]? = some b → w.cell? ⟨g, j, none⟩ = some (.int .u8 (b.toNat : Int)) ∧ w.frozen? ⟨g, j, none⟩ = false
section
variable {w w' : World} {g : Nat} {l : List UInt8}
theorem MRow.reads (h : MRow w g l) : Reads w w.heap.size 1 (some ⟨g, 0, none⟩) l.length (bcells l) := by
 refine ⟨by rw [bcells_length, Nat.mul_one], fun _ => ⟨_, rfl, h.1, fun j u hu => ?_⟩⟩
 unfold bcells at hu
 rw [List.getElem?_map] at hu
 obtain ⟨b, hb, rfl⟩ := Option.map_eq_some_iff.1 hu
 have e : (⟨g, 0, none⟩ : Addr).add j = ⟨g, j, none⟩ := by unfold Addr.add; split <;> simp_all
 rw [e]
 exact (h.2 j b hb).1
theorem MRow.of_cells (w : World) (t : TypeId) (l : List UInt8) (cs : Array Value) (h : cs.toList = bcells l) : MRow (w.alloc (.cells cs t)) w.heap.size l := by
 refine ⟨by simp, fun j b hj => ⟨?_, frozen_of_row _ _ _ cs t ?_⟩⟩
 ·rw [World.cell?_alloc_mark, ← Array.getElem?_toList, h, bcells, List.getElem?_map, hj]; rfl
 ·exact heap_alloc_new _ _
end
theorem run_make_bytes {P : Program} (t e : TypeId) (ht : P.underlying t = some (.slice e)) (hi : (P.info? e).map (fun i => (i.zero, i.size, i.bytes)) = some (some (.int .u8 0), 1, 1)) (n : Nat) (hn : n ≤ 281474976710656) (w : World) :
  (Instr.makeSlice t (.int .i64 (n : Int)) (.int .i64 (n : Int))).run P w = .ok (.slice (some ⟨w.heap.size, 0, none⟩) n n) (w.alloc (.cells (madeCells #[.int .u8 0] n) e)) := by
 obtain ⟨i, hi0, hz, hs, hb⟩ := info_parts hi
 have hr := run_make (P := P) w t e i _ ht hi0 hz .i64 .i64 n n (by omega) (by omega) (by rw [hb]; omega) (by omega)
 simp only [Int.toNat_natCast] at hr
 rw [hs, Nat.mul_one] at hr
 exact hr
theorem MRow.of_made (w : World) (t : TypeId) (n : Nat) : MRow (w.alloc (.cells (madeCells #[.int .u8 0] n) t)) w.heap.size (List.replicate n 0) :=
 MRow.of_cells w t _ _ (by rw [toList_madeCells_one]; simp [bcells])
theorem wrap64_nat (k : Nat) (h : k < 9223372036854775808) : wrap64 (k : Int) = (k : Int) := by unfold wrap64; omega
theorem i64_nat (k : Nat) (h : k < 9223372036854775808) : IntKind.i64.wrap (k : Int) = (k : Int) := by rw [IntKind.wrap_i64]; omega
end Go.Proofs.Ytgnpldlgdapehaa

namespace Go.Proofs.Ytgnpldlgdapehaa
open Go.RowKit
open Go.Lib

theorem grown_of_below {w w' : World} (h : Below w.heap.size w w') : w.grownBy w' none := ⟨h.os, h.tape, h.output, h.size, fun k hk _ => h.block k hk⟩
theorem own_below {w w' : World} {base : Nat} {e : TypeId} {size : Nat} {v : Value} {n : Nat} {xs : List Value} (ho : w.ownsRow base e size v n xs) (h : Below w.heap.size w w') : w'.ownsRow base e size v n xs :=
 ho.kept (grown_of_below h) (by rcases v.ownBlock with _ | g <;> simp)
theorem own_type {w : World} {base : Nat} {e : TypeId} {size : Nat} {v : Value} {n : Nat} {xs : List Value} (ho : w.ownsRow base e size v n xs) {g : Nat} {t : TypeId} {cs : Array Value} (hB : Blk w g t cs) (hne : t ≠ e) : some g ≠ v.ownBlock := by
 rcases ho.2 with ⟨rfl, _⟩ | ⟨g', cap, cur, rfl, _, hg', _⟩
 ·simp [Value.ownBlock]
 ·intro h
  simp [Value.ownBlock] at h
  exact Blk.ne_ hB hg' hne h
theorem own_ne {w : World} {base : Nat} {e : TypeId} {size : Nat} {v : Value} {n : Nat} {xs : List Value} (h : w.ownsRow base e size v n xs) {g : Nat} (hg : g < base) : some g ≠ v.ownBlock := fun he => by
 have := (h.lt g he.symm).1
 omega
theorem own_base {w : World} {base : Nat} {e : TypeId} {size : Nat} {v : Value} {n : Nat} {xs : List Value} (h : w.ownsRow base e size v n xs) : ∀ g, v.ownBlock = some g → base ≤ g := by
 rcases h.2 with ⟨rfl, rfl⟩ | ⟨g', cap, cur, rfl, hb, _⟩
 ·simp [Value.ownBlock]
 ·intro g hg
  simp [Value.ownBlock] at hg
  omega
theorem own_low {w : World} {base B : Nat} {e : TypeId} {size : Nat} {v : Value} {n : Nat} {xs : List Value} (h : w.ownsRow base e size v n xs) (hB : B ≤ base) : w.ownsRow B e size v n xs := by
 refine ⟨h.1, ?_⟩
 rcases h.2 with h2 | ⟨g', cap, cur, h1, hb, h3⟩
 ·exact Or.inl h2
 ·exact Or.inr ⟨g', cap, cur, h1, Nat.le_trans hB hb, h3⟩
end Go.Proofs.Ytgnpldlgdapehaa

namespace Go.Proofs.Ytgnpldlgdapehaa
open Go.RowKit Go.Lib

structure Kept (F : Nat → Prop) (w w' : World) : Prop where
 os : w'.os = w.os
 tape : w'.tape = w.tape
 output : w'.output = w.output
 size : w.heap.size ≤ w'.heap.size
 block : ∀ k, k < w.heap.size → ¬ F k → w'.heap[k]? = w.heap[k]?

section
variable {F G : Nat → Prop} {a w w' : World} {B g : Nat} {t : TypeId} {cs : Array Value}
theorem Kept.refl (F : Nat → Prop) (w : World) : Kept F w w := ⟨rfl, rfl, rfl, Nat.le_refl _, fun _ _ _ => rfl⟩
theorem Kept.trans (h : Kept F a w) (k : Kept F w w') : Kept F a w' :=
 ⟨k.os.trans h.os, k.tape.trans h.tape, k.output.trans h.output, Nat.le_trans h.size k.size, fun i hi hn => (k.block i (Nat.lt_of_lt_of_le hi h.size) hn).trans (h.block i hi hn)⟩
theorem Kept.then (h : Kept F a w) (k : Kept G w w') (hG : ∀ i, G i → F i ∨ a.heap.size ≤ i) : Kept F a w' :=
 ⟨k.os.trans h.os, k.tape.trans h.tape, k.output.trans h.output, Nat.le_trans h.size k.size, fun i hi hn =>
  (k.block i (Nat.lt_of_lt_of_le hi h.size) (fun hg => by rcases hG i hg with h1 | h1; exact hn h1; omega)).trans (h.block i hi hn)⟩
theorem Kept.mono (h : Kept F w w') (hG : ∀ i, F i → G i) : Kept G w w' := ⟨h.os, h.tape, h.output, h.size, fun i hi hn => h.block i hi fun hf => hn (hG i hf)⟩
theorem Kept.of_below (h : Below B w w') (hF : ∀ k, B ≤ k → k < w.heap.size → F k) : Kept F w w' :=
 ⟨h.os, h.tape, h.output, h.size, fun i hi hn => h.block i (by rcases Nat.lt_or_ge i B with h1 | h1; exact h1; exact absurd (hF i h1 hi) hn)⟩
theorem Kept.of_new (h : Below w.heap.size w w') : Kept F w w' := Kept.of_below h fun k h1 h2 => by omega
theorem Kept.of_grown {row : Option Nat} (h : w.grownBy w' row) (hF : ∀ k, row = some k → F k) : Kept F w w' :=
 ⟨h.os, h.tape, h.output, h.size, fun i hi hn => h.block i hi fun e => hn (hF i e.symm)⟩
theorem Kept.drew (h : Kept F a w) : Kept F a w.drew := ⟨h.os, h.tape, h.output, h.size, h.block⟩
theorem Kept.setCell (h : Kept F a w) {p : Addr} (hp : F p.block ∨ a.heap.size ≤ p.block) (u : Value) : Kept F a (w.setCell p u) :=
 h.then (G := fun k => k = p.block) ⟨rfl, rfl, rfl, by simp [World.setCell], fun k hk hn => Below.heap_setCell _ _ _ _ hn⟩ (by rintro i rfl; exact hp)
theorem Kept.grown (h : Kept F a w) {row : Option Nat} (hg : w.grownBy w' row) (hr : ∀ k, row = some k → F k ∨ a.heap.size ≤ k) : Kept F a w' :=
 h.then (G := fun k => row = some k) (Kept.of_grown hg fun k e => e) hr
theorem Kept.below (h : Kept F w w') (hF : ∀ k, F k → B ≤ k) (hB : B ≤ w.heap.size) : Below B w w' :=
 ⟨h.os, h.tape, h.output, h.size, fun k hk => h.block k (by omega) fun hf => by have := hF k hf; omega⟩
theorem Kept.blk (h : Kept F w w') (hb : Blk w g t cs) (hn : ¬ F g) : Blk w' g t cs := (h.block g hb.lt hn).trans hb
theorem Kept.own (h : Kept F w w') {base size n : Nat} {e : TypeId} {v : Value} {xs : List Value} (ho : w.ownsRow base e size v n xs) (hn : ∀ k, v.ownBlock = some k → ¬ F k) : w'.ownsRow base e size v n xs := by
 refine ⟨ho.1, ?_⟩
 rcases ho.2 with h0 | ⟨g, cap, cur, rfl, hb, hh, h1, h2, h3, h4⟩
 ·exact .inl h0
 ·have hlt : g < w.heap.size := (ho.lt g rfl).2
  exact .inr ⟨g, cap, cur, rfl, hb, (h.block g hlt (hn g rfl)).trans hh, h1, h2, h3, h4⟩
end

theorem own_ne_blk {w : World} {base size n g : Nat} {e t : TypeId} {v : Value} {xs : List Value} {cs : Array Value} (ho : w.ownsRow base e size v n xs) (hb : Blk w g t cs) (hne : e ≠ t) : v.ownBlock ≠ some g := by
 rcases ho.2 with ⟨rfl, _⟩ | ⟨g', cap, cur, rfl, _, hh, _⟩
 ·simp [Value.ownBlock]
 ·intro he
  have : g' = g := by simpa [Value.ownBlock] using he
  subst this
  exact Blk.ne_ (t := e) hh hb hne rfl
theorem own_ne_own {w : World} {base base' size size' n n' g : Nat} {e e' : TypeId} {v v' : Value} {xs xs' : List Value} (ho : w.ownsRow base e size v n xs) (ho' : w.ownsRow base' e' size' v' n' xs') (hne : e ≠ e') (hg : v.ownBlock = some g) : v'.ownBlock ≠ some g := by
 rcases ho.2 with ⟨rfl, _⟩ | ⟨g', cap, cur, rfl, _, hh, _⟩
 ·simp [Value.ownBlock] at hg
 ·have : g' = g := by simpa [Value.ownBlock] using hg
  subst this
  exact own_ne_blk ho' (t := e) hh (fun h => hne h.symm)
end Go.Proofs.Ytgnpldlgdapehaa

namespace Go.Proofs.Ytgnpldlgdapehaa
open Go.RowKit

def rowsOf {α : Type} (f : α → List Value) (l : List α) : List Value := l.flatMap f
section
variable {α : Type} {f : α → List Value} {k : Nat}
theorem rowsOf_length (hf : ∀ x, (f x).length = k) : ∀ l : List α, (rowsOf f l).length = l.length * k
 | [] => by simp [rowsOf]
 | x :: l => by
  have ih := rowsOf_length hf l
  simp only [rowsOf, List.flatMap_cons, List.length_append, hf x, List.length_cons] at ih ⊢
  rw [ih, Nat.add_mul, Nat.one_mul, Nat.add_comm]
theorem rowsOf_append (l m : List α) : rowsOf f (l ++ m) = rowsOf f l ++ rowsOf f m := by simp [rowsOf]
theorem rowsOf_get (hf : ∀ x, (f x).length = k) : ∀ (l : List α) (i j : Nat) (x : α), l[i]? = some x → j < k → (rowsOf f l)[i * k + j]? = (f x)[j]?
 | [], i, j, x, h, _ => by simp at h
 | y :: l, 0, j, x, h, hj => by
  simp at h
  subst h
  simp only [rowsOf, List.flatMap_cons, Nat.zero_mul, Nat.zero_add]
  rw [List.getElem?_append_left (by rw [hf]; exact hj)]
 | y :: l, i + 1, j, x, h, hj => by
  have ih := rowsOf_get hf l i j x (by simpa using h) hj
  simp only [rowsOf, List.flatMap_cons] at ih ⊢
  rw [List.getElem?_append_right (by rw [hf, Nat.add_mul]; omega), hf, show (i + 1) * k + j - k = i * k + j by rw [Nat.add_mul]; omega]
  exact ih
theorem rowsOf_drop (hf : ∀ x, (f x).length = k) : ∀ (l : List α) (n : Nat), (rowsOf f l).drop (n * k) = rowsOf f (l.drop n)
 | l, 0 => by simp
 | [], n + 1 => by simp [rowsOf]
 | y :: l, n + 1 => by
  have ih := rowsOf_drop hf l n
  simp only [rowsOf, List.flatMap_cons, List.drop_succ_cons] at ih ⊢
  rw [Nat.add_mul, Nat.one_mul, Nat.add_comm (n * k) k, ← List.drop_drop, List.drop_left' (hf y)]
  exact ih
theorem rowsOf_take (hf : ∀ x, (f x).length = k) : ∀ (l : List α) (n : Nat), (rowsOf f l).take (n * k) = rowsOf f (l.take n)
 | l, 0 => by simp [rowsOf]
 | [], n + 1 => by simp [rowsOf]
 | y :: l, n + 1 => by
  have ih := rowsOf_take hf l n
  simp only [rowsOf, List.flatMap_cons, List.take_succ_cons] at ih ⊢
  rw [Nat.add_mul, Nat.one_mul, Nat.add_comm (n * k) k, List.take_append, hf y, List.take_of_length_le (by rw [hf y]; omega), show k + n * k - k = n * k by omega, ih]
theorem row_at (hf : ∀ x, (f x).length = k) (hk : 0 < k) {w : World} {B n i : Nat} {A : Option Addr} {l : List α} (h : Reads w B k A n (rowsOf f l)) (hi : i < n) :
  ∃ ad x, A = some ad ∧ ad.block < B ∧ l[i]? = some x ∧ ∀ j u, (f x)[j]? = some u → w.cell? ((ad.add (i * k)).add j) = some u := by
 obtain ⟨ad, hA, hb, hc⟩ := h.2 (by omega)
 have hl : l.length = n := by
  have := h.1
  rw [rowsOf_length hf] at this
  exact Nat.eq_of_mul_eq_mul_right hk this
 have hi' : i < l.length := by omega
 refine ⟨ad, l[i], hA, hb, List.getElem?_eq_getElem hi', fun j u hu => ?_⟩
 have hj : j < k := by rw [← hf l[i]]; exact (List.getElem?_eq_some_iff.1 hu).1
 rw [add_add]
 exact hc _ u (by rw [rowsOf_get hf l i j l[i] (List.getElem?_eq_getElem hi') hj]; exact hu)
theorem rows_len (hf : ∀ x, (f x).length = k) (hk : 0 < k) {w : World} {B n : Nat} {A : Option Addr} {l : List α} (h : Reads w B k A n (rowsOf f l)) : l.length = n := by
 have := h.1
 rw [rowsOf_length hf] at this
 exact Nat.eq_of_mul_eq_mul_right hk this
theorem rows_take (hf : ∀ x, (f x).length = k) {w : World} {B n m : Nat} {A : Option Addr} {l : List α} (h : Reads w B k A n (rowsOf f l)) (hm : m ≤ n) : Reads w B k A m (rowsOf f (l.take m)) := by
 rw [← rowsOf_take hf]
 have hnm : m * k ≤ n * k := Nat.mul_le_mul_right k hm
 refine ⟨by rw [List.length_take, h.1]; omega, fun h0 => ?_⟩
 obtain ⟨ad, hA, hb, hc⟩ := h.2 (by omega)
 refine ⟨ad, hA, hb, fun j u hu => hc j u ?_⟩
 rw [List.getElem?_take] at hu
 split at hu
 ·exact hu
 ·cases hu
theorem rows_drop (hf : ∀ x, (f x).length = k) {w : World} {B n m cap : Nat} {A : Option Addr} {l : List α} (h : Reads w B k A n (rowsOf f l)) (hm : m ≤ n) (hc : n ≤ cap) : Reads w B k (if cap = m then A else A.map (·.add (m * k))) (n - m) (rowsOf f (l.drop m)) := by
 rw [← rowsOf_drop hf]
 exact h.cut hm hc
end
end Go.Proofs.Ytgnpldlgdapehaa

namespace Go.Proofs.Ytgnpldlgdapehaa
open Go.RowKit

theorem cells5 {w : World} {p : Addr} {v0 v1 v2 v3 v4 : Value} (h : ∀ j u, ([v0, v1, v2, v3, v4] : List Value)[j]? = some u → w.cell? (p.add j) = some u) :
  w.cell? p = some v0 ∧ w.cell? ⟨p.block, p.off + 1, none⟩ = some v1 ∧ w.cell? ⟨p.block, p.off + 2, none⟩ = some v2 ∧ w.cell? ⟨p.block, p.off + 3, none⟩ = some v3 ∧ w.cell? ⟨p.block, p.off + 4, none⟩ = some v4 := by
 have e : ∀ k, 0 < k → p.add k = ⟨p.block, p.off + k, none⟩ := fun k hk => by unfold Addr.add; rw [if_neg (by omega)]
 refine ⟨h 0 _ rfl, ?_, ?_, ?_, ?_⟩
 ·rw [← e 1 (by decide)]; exact h 1 _ rfl
 ·rw [← e 2 (by decide)]; exact h 2 _ rfl
 ·rw [← e 3 (by decide)]; exact h 3 _ rfl
 ·rw [← e 4 (by decide)]; exact h 4 _ rfl
structure It where
 ky : ByteArray
 vl : ByteArray
 ov : Bool
 ln : Int
 hd : Nat
def It.cells (b : It) : List Value := [.string b.ky, .string b.vl, .bool b.ov, .int .i64 b.ln, .int .u32 b.hd]
theorem It.cells_len (b : It) : b.cells.length = 5 := rfl
def itc (l : List It) : List Value := rowsOf It.cells l
def ItAt (w : World) (p : Addr) (b : It) : Prop := w.cell? p = some (.string b.ky) ∧ w.cell? ⟨p.block, p.off + 1, none⟩ = some (.string b.vl) ∧ w.cell? ⟨p.block, p.off + 2, none⟩ = some (.bool b.ov) ∧ w.cell? ⟨p.block, p.off + 3, none⟩ = some (.int .i64 b.ln) ∧ w.cell? ⟨p.block, p.off + 4, none⟩ = some (.int .u32 b.hd)
theorem ItAt.below {w w' : World} {B : Nat} {p : Addr} {b : It} (h : ItAt w p b) (hb : Below B w w') (hp : p.block < B) : ItAt w' p b :=
 ⟨(hb.cell (p := p) hp).trans h.1, (hb.cell (p := ⟨p.block, p.off + 1, none⟩) hp).trans h.2.1, (hb.cell (p := ⟨p.block, p.off + 2, none⟩) hp).trans h.2.2.1, (hb.cell (p := ⟨p.block, p.off + 3, none⟩) hp).trans h.2.2.2.1, (hb.cell (p := ⟨p.block, p.off + 4, none⟩) hp).trans h.2.2.2.2⟩
theorem it_at {w : World} {B n i : Nat} {A : Option Addr} {l : List It} (h : Reads w B 5 A n (itc l)) (hi : i < n) :
  ∃ ad x, A = some ad ∧ ad.block < B ∧ (ad.add (i * 5)).block < B ∧ l[i]? = some x ∧ ItAt w (ad.add (i * 5)) x := by
 obtain ⟨ad, x, hA, hb, hx, hc⟩ := row_at (fun b => It.cells_len b) (by decide) h hi
 exact ⟨ad, x, hA, hb, by rw [block_add]; exact hb, hx, cells5 hc⟩
theorem it_len {w : World} {B n : Nat} {A : Option Addr} {l : List It} (h : Reads w B 5 A n (itc l)) : l.length = n := rows_len (fun b => It.cells_len b) (by decide) h
theorem it_take {w : World} {B n m : Nat} {A : Option Addr} {l : List It} (h : Reads w B 5 A n (itc l)) (hm : m ≤ n) : Reads w B 5 A m (itc (l.take m)) := rows_take (fun b => It.cells_len b) h hm
theorem it_drop {w : World} {B n m cap : Nat} {A : Option Addr} {l : List It} (h : Reads w B 5 A n (itc l)) (hm : m ≤ n) (hc : n ≤ cap) : Reads w B 5 (if cap = m then A else A.map (·.add (m * 5))) (n - m) (itc (l.drop m)) := rows_drop (fun b => It.cells_len b) h hm hc
theorem itc_append (l m : List It) : itc (l ++ m) = itc l ++ itc m := rowsOf_append l m
end Go.Proofs.Ytgnpldlgdapehaa

namespace Go.Proofs.Ytgnpldlgdapehaa
open Go.RowKit

end Go.Proofs.Ytgnpldlgdapehaa

namespace Go.Proofs.Ytgnpldlgdapehaa
open Go.RowKit
open Go.Lib

def goodSize (n : Int) : Bool := decide (128 ≤ n) && decide (n ≤ 4096) && n % 64 == 0
theorem dgood_any (n : Int) (w : World) :
  Calls Try.prog 39 #[.int .i64 n] w fun e w' => e = .returned (.bool (goodSize n)) ∧ w = w' := by
 by_cases h1 : 128 ≤ n
 ·by_cases h2 : n ≤ 4096
  ·have h0 : 0 ≤ n := by omega
   by_cases h3 : n % 64 = 0
   ·have h4 : (n % 64 == 0) = true := by simpa using h3
    have HG := Lib.hid (show goodSize n = true by simp [goodSize, h1, h2, h3])
    clear h3
    go_enter Try.func39, Try.ntmps39
    go_wp2
    go_ret
    exact ⟨by rw [HG.out]; rfl, rfl⟩
   ·have h4 : (n % 64 == 0) = false := by simpa using h3
    have HG := Lib.hid (show goodSize n = false by simp [goodSize, h1, h2, h4])
    clear h3
    go_enter Try.func39, Try.ntmps39
    go_wp2
    go_ret
    exact ⟨by rw [HG.out]; rfl, rfl⟩
  ·have HG := Lib.hid (show goodSize n = false by simp [goodSize, h2])
   go_enter Try.func39, Try.ntmps39
   go_wp2
   go_ret
   exact ⟨by rw [HG.out]; rfl, rfl⟩
 ·have HG := Lib.hid (show goodSize n = false by simp [goodSize, h1])
  go_enter Try.func39, Try.ntmps39
  go_wp2
  go_ret
  exact ⟨by rw [HG.out]; rfl, rfl⟩

theorem good_pos {size : Nat} (h : goodSize size = true) : 128 ≤ size ∧ size ≤ 4096 := by
 simp [goodSize] at h
 omega
end Go.Proofs.Ytgnpldlgdapehaa

namespace Go.Proofs.Ytgnpldlgdapehaa
open Go.RowKit

structure Bk where
 nm : ByteArray
 rt : Nat
 ks : Int
end Go.Proofs.Ytgnpldlgdapehaa

namespace Go.Proofs.Ytgnpldlgdapehaa
open Go.RowKit
open Go.Lib hiding intOf
attribute [local go_sem ↓] Go.wp_at_zero Go.wp_at_succ

end Go.Proofs.Ytgnpldlgdapehaa

namespace Go.Proofs.Ytgnpldlgdapehaa
open Go.RowKit
open Go.Lib
attribute [local go_sem ↓] Go.wp_at_zero Go.wp_at_succ

theorem wpAnyH_takeL {P : Program} {md : Region.Mode} {l : List Oper} {Q : Exit → Act → World → Prop} {S : World → Prop} {i : Nat} {oi : Oper} {v : Value} {fuel : Nat} {listed : Array Bool} {a : Act} {w : World} (hi : l[i]? = some oi)
  (hs : Region.noSelect l.toArray = true) (hf : Region.free md l.toArray listed i = true) (hr : (Region.ready md l.toArray listed).contains i = true)
  (hQ : ∀ c a w, Q (.panic c) (a.put oi.dst v) w → Q (.panic c) a w) (hy : YieldsIf P l.toArray S oi v a) (hS : S w)
  (h : wpAnyH P md l.toArray Q S fuel (listed.setIfInBounds i true) (a.put oi.dst v) w) : wpAnyH P md l.toArray Q S (fuel + 1) listed a w :=
 wpAnyH_take (by simpa using hi) hs hf hr hQ hy hS h
theorem AllReadyH.consL {P : Program} {md : Region.Mode} {l : List Oper} {Q : Exit → Act → World → Prop} {S : World → Prop} {fuel : Nat} {listed : Array Bool} {a : Act} {w : World} {i : Nat} {o : Oper} {rs : List Nat} (ho : l[i]? = some o)
  (h : ∀ K' : Act → World → Prop, Shut (∀ a w, S w → (S w → wpAnyH P md l.toArray Q S fuel (listed.setIfInBounds i true) a w) → K' a w) → if Region.wanted o (yielded l.toArray a.tmps) = true then Oper.wp P o a w K' Q else K' (a.put o.dst undef) w)
  (hs : AllReadyH P md l.toArray Q S fuel listed a w rs) : AllReadyH P md l.toArray Q S fuel listed a w (i :: rs) :=
 AllReadyH.cons (by simpa using ho) h hs

theorem tkL {P : Program} {md : Region.Mode} {l : List Oper} {Q : Exit → Act → World → Prop} {S : World → Prop} {i : Nat} {oi : Oper} {v : Value} {fuel : Nat} {listed : Array Bool} {a : Act} {w : World}
    (hy : ∀ w', S w' → (execOp a.eval oi).run P w' = .ok (.value v) w') (hS : S w) (h : wpAnyH P md l.toArray Q S fuel (listed.setIfInBounds i true) (a.put oi.dst v) w)
    (hi : l[i]? = some oi := by rfl) (hs : Region.noSelect l.toArray = true := by kernel_rfl) (hf : Region.free md l.toArray listed i = true := by kernel_rfl) (hr : (Region.ready md l.toArray listed).contains i = true := by kernel_rfl)
    (hQ : ∀ c a w, Q (.panic c) (a.put oi.dst v) w → Q (.panic c) a w := by exact fun _ _ _ h => h) (hw : Region.wanted oi (yielded l.toArray a.tmps) = true := by rfl) : wpAnyH P md l.toArray Q S (fuel + 1) listed a w :=
  wpAnyH_takeL hi hs hf hr hQ (.inl ⟨hw, hy⟩) hS h
theorem tkA {P : Program} {md : Region.Mode} {l : List Oper} {Q : Exit → Act → World → Prop} {S : World → Prop} {i : Nat} {oi : Oper} {v : Value} {fuel : Nat} {listed : Array Bool} {a : Act} {w : World}
    (h : wpAnyH P md l.toArray Q S fuel (listed.setIfInBounds i true) (a.put oi.dst v) w)
    (hi : l[i]? = some oi := by rfl) (hy : ∀ w', S w' → (execOp a.eval oi).run P w' = .ok (.value v) w' := by (intro wz hSz; (try dsimp only at hSz); go_simp; (try with_reducible rfl))) (hS : S w := by first | exact hHeld | trivial | assumption)
    (hs : Region.noSelect l.toArray = true := by kernel_rfl) (hf : Region.free md l.toArray listed i = true := by kernel_rfl) (hr : (Region.ready md l.toArray listed).contains i = true := by kernel_rfl)
    (hQ : ∀ c a w, Q (.panic c) (a.put oi.dst v) w → Q (.panic c) a w := by exact fun _ _ _ h => h) (hw : Region.wanted oi (yielded l.toArray a.tmps) = true := by rfl) : wpAnyH P md l.toArray Q S (fuel + 1) listed a w :=
  wpAnyH_takeL hi hs hf hr hQ (.inl ⟨hw, hy⟩) hS h
theorem tkU {P : Program} {md : Region.Mode} {l : List Oper} {Q : Exit → Act → World → Prop} {S : World → Prop} {i : Nat} {oi : Oper} {fuel : Nat} {listed : Array Bool} {a : Act} {w : World}
    (h : wpAnyH P md l.toArray Q S fuel (listed.setIfInBounds i true) (a.put oi.dst undef) w)
    (hi : l[i]? = some oi := by rfl) (hS : S w := by first | exact hHeld | trivial | assumption)
    (hs : Region.noSelect l.toArray = true := by kernel_rfl) (hf : Region.free md l.toArray listed i = true := by kernel_rfl) (hr : (Region.ready md l.toArray listed).contains i = true := by kernel_rfl)
    (hQ : ∀ c a w, Q (.panic c) (a.put oi.dst undef) w → Q (.panic c) a w := by exact fun _ _ _ h => h) (hw : Region.wanted oi (yielded l.toArray a.tmps) = false := by rfl) : wpAnyH P md l.toArray Q S (fuel + 1) listed a w :=
  wpAnyH_takeL hi hs hf hr hQ (.inr ⟨hw, rfl⟩) hS h
theorem tkC {P : Program} {md : Region.Mode} {l : List Oper} {Q : Exit → Act → World → Prop} {S : World → Prop} {fuel : Nat} {listed : Array Bool} {a : Act} {w : World} {i : Nat} {o : Oper}
    (h : ∀ K' : Act → World → Prop, Shut (∀ a w, S w → (S w → wpAnyH P md l.toArray Q S fuel (listed.setIfInBounds i true) a w) → K' a w) → if Region.wanted o (yielded l.toArray a.tmps) = true then Oper.wp P o a w K' Q else K' (a.put o.dst undef) w) (ho : l[i]? = some o := by rfl) : AllReadyH P md l.toArray Q S fuel listed a w [i] :=
  AllReadyH.consL ho h AllReadyH.nil
theorem tkP : (∀ (t : Array Value) (ds : List Deferred) (d : Tmp) (v : Value), Act.put ⟨t, ds⟩ (some d) v = ⟨t.setIfInBounds d v, ds⟩) ∧ (∀ (a : Act) (v : Value), Act.put a none v = a) ∧ (∀ (l : List Value) (i : Nat) (v : Value), l.toArray.setIfInBounds i v = (l.set i v).toArray) ∧ (∀ (a b : Value) (l : List Value), (a :: l).set 0 b = b :: l) ∧ (∀ (a b : Value) (l : List Value) (i : Nat), (a :: l).set (i + 1) b = a :: l.set i b) :=
  ⟨fun _ _ _ _ => rfl, fun _ _ => rfl, fun l i v => by simp, fun _ _ _ => rfl, fun _ _ _ _ => rfl⟩
end Go.Proofs.Ytgnpldlgdapehaa

namespace Go.Proofs.Ytgnpldlgdapehaa
open Go.RowKit

def Greedy {α : Type} (sz : List α → Nat) (room : Nat) : List (List α) → Prop
 | [] => True
 | p :: t => p ≠ [] ∧ sz p ≤ room ∧ (∀ q s x r, t = q :: s → q = x :: r → room < sz (p ++ [x])) ∧ Greedy sz room t
section
variable {α : Type} {sz : List α → Nat} {room : Nat}
theorem Greedy.ne : ∀ {P : List (List α)}, Greedy sz room P → ∀ p ∈ P, p ≠ []
 | [], _, p, hp => by simp at hp
 | q :: t, h, p, hp => by
  rcases List.mem_cons.1 hp with rfl | hp
  ·exact h.1
  ·exact Greedy.ne h.2.2.2 p hp
theorem Greedy.fits : ∀ {P : List (List α)}, Greedy sz room P → ∀ p ∈ P, sz p ≤ room
 | [], _, p, hp => by simp at hp
 | q :: t, h, p, hp => by
  rcases List.mem_cons.1 hp with rfl | hp
  ·exact h.2.1
  ·exact Greedy.fits h.2.2.2 p hp
theorem Greedy.new {s : List α} {x : α} (hx : sz [x] ≤ room) (hs : room < sz (s ++ [x])) : ∀ {P : List (List α)}, Greedy sz room (P ++ [s]) → Greedy sz room (P ++ [s, [x]])
 | [], h => ⟨h.1, h.2.1, fun q s2 y r e1 e2 => by injection e1 with e1 e3; rw [← e1] at e2; injection e2 with e2 e4; rw [← e2]; exact hs, ⟨by simp, hx, fun q s2 y r e1 _ => by simp at e1, trivial⟩⟩
 | [p], h => ⟨h.1, h.2.1, fun q s2 y r e1 e2 => by injection e1 with e1 e3; exact h.2.2.1 q [] y r (by rw [e1]; rfl) e2, Greedy.new hx hs (P := []) h.2.2.2⟩
 | p :: p2 :: P, h => ⟨h.1, h.2.1, fun q s2 y r e1 e2 => by injection e1 with e1 e3; exact h.2.2.1 q (P ++ [s]) y r (by rw [e1]; rfl) e2, Greedy.new hx hs (P := p2 :: P) h.2.2.2⟩
theorem Greedy.old {s : List α} {x : α} (hs : sz (s ++ [x]) ≤ room) (h0 : s ≠ []) : ∀ {P : List (List α)}, Greedy sz room (P ++ [s]) → Greedy sz room (P ++ [s ++ [x]])
 | [], h => ⟨by simp, hs, fun q s2 y r e1 _ => by simp at e1, trivial⟩
 | [p], h => ⟨h.1, h.2.1, fun q s2 y r e1 e2 => by
   cases s with
   | nil => exact absurd rfl h0
   | cons z s =>
    injection e1 with e1 e3
    rw [e2] at e1
    injection e1 with e1 e4
    rw [← e1]
    exact h.2.2.1 (z :: s) [] z s rfl rfl, Greedy.old hs h0 (P := []) h.2.2.2⟩
 | p :: p2 :: P, h => ⟨h.1, h.2.1, fun q s2 y r e1 e2 => by injection e1 with e1 e3; exact h.2.2.1 q (P ++ [s]) y r (by rw [e1]; rfl) e2, Greedy.old hs h0 (P := p2 :: P) h.2.2.2⟩
theorem seg_snoc {l : List α} {s k : Nat} {x : α} (hs : s ≤ k) (hx : l[k]? = some x) : (l.drop s).take (k + 1 - s) = (l.drop s).take (k - s) ++ [x] := by
 rw [show k + 1 - s = (k - s) + 1 by omega, List.take_add_one, List.getElem?_drop, show s + (k - s) = k by omega, hx]
 rfl
theorem cutAt_greedy {one : α → Nat} (h0 : sz [] = 0) (h1 : ∀ a x, sz (a ++ [x]) = sz a + one x) {l : List α} : ∀ {k : Nat} {E : List Nat} {left : Int}, k ≤ l.length → cutAt (l.map fun x => ((one x : Nat) : Int)) room k = some (E, left) →
  (k = 0 ∧ E = [] ∧ left = room) ∨ ∃ P s, partsBy l 0 E = P ∧ s = (l.drop (E.getLast?.getD 0)).take (k - E.getLast?.getD 0) ∧ E.getLast?.getD 0 ≤ k ∧ s ≠ [] ∧ Greedy sz room (P ++ [s]) ∧ (P ++ [s]).flatten = l.take k ∧ left = (room : Int) - sz s
 | 0, E, left, _, h => by
  injection h with h
  injection h with e1 e2
  exact .inl ⟨rfl, e1.symm, e2.symm⟩
 | k + 1, E, left, hk, h => by
  right
  cases hs : cutAt (l.map fun x => ((one x : Nat) : Int)) room k with
  | none => rw [cutAt_none hs 1] at h; cases h
  | some t =>
   obtain ⟨E0, left0⟩ := t
   obtain ⟨x, hx⟩ : ∃ x, l[k]? = some x := ⟨l[k], List.getElem?_eq_getElem (by omega)⟩
   have hg : (l.map fun x => ((one x : Nat) : Int)).getD k 0 = one x := by
    rw [List.getD_eq_getElem?_getD, List.getElem?_map, hx]; rfl
   have hsx : sz [x] = one x := by have := h1 [] x; rw [h0] at this; simpa using this
   by_cases hb : (l.map fun x => ((one x : Nat) : Int)).getD k 0 < 0 ∨ (room : Int) < (l.map fun x => ((one x : Nat) : Int)).getD k 0
   ·rw [cutAt_bad hs hb] at h; cases h
   ·rcases cutAt_greedy h0 h1 (by omega) hs with ⟨rfl, rfl, rfl⟩ | ⟨P, s, hP, hsg, hlast, hne, hgr, hfl, hleft⟩
    ·rw [cutAt_old hs hb (by omega)] at h
     injection h with h
     injection h with e1 e2
     subst e1 e2
     have htk : l.take 1 = [x] := by
      obtain ⟨h3, rfl⟩ := List.getElem?_eq_some_iff.1 hx
      cases l with
      | nil => simp at hk
      | cons y t => simp
     refine ⟨[], [x], rfl, by simpa using htk.symm, by simp, by simp, ⟨by simp, by rw [hsx]; omega, fun q s y r e1 _ => by simp at e1, trivial⟩, by simpa using htk.symm, by rw [hg, hsx]⟩
    ·by_cases h2 : left0 < (l.map fun x => ((one x : Nat) : Int)).getD k 0
     ·rw [cutAt_new hs hb h2] at h
      injection h with h
      injection h with e1 e2
      subst e1 e2
      have hl2 : (E0 ++ [k]).getLast?.getD 0 = k := by simp
      have hb2 : room < sz (s ++ [x]) := by rw [h1]; omega
      have htk : (l.drop k).take (k + 1 - k) = [x] := by
       have := seg_snoc (Nat.le_refl k) hx
       rw [this, Nat.sub_self]
       simp
      refine ⟨partsBy l 0 (E0 ++ [k]), [x], rfl, by rw [hl2, htk], by rw [hl2]; omega, by simp, ?_, ?_, by rw [hg, hsx]⟩
      ·rw [partsBy_append, hP]
       show Greedy sz room (P ++ [(l.drop (E0.getLast?.getD 0)).take (k - E0.getLast?.getD 0)] ++ [[x]])
       rw [← hsg, List.append_assoc]
       exact hgr.new (by rw [hsx]; omega) hb2
      ·rw [partsBy_append, hP]
       show (P ++ [(l.drop (E0.getLast?.getD 0)).take (k - E0.getLast?.getD 0)] ++ [[x]]).flatten = _
       rw [← hsg, List.flatten_append, hfl]
       obtain ⟨h3, rfl⟩ := List.getElem?_eq_some_iff.1 hx
       rw [List.take_succ_eq_append_getElem h3]
       simp
     ·rw [cutAt_old hs hb h2] at h
      injection h with h
      injection h with e1 e2
      subst e1 e2
      have h4 := h1 s x
      refine ⟨P, s ++ [x], hP, by rw [seg_snoc hlast hx, ← hsg], by omega, by simp, hgr.old (by rw [h4]; omega) hne, ?_, by rw [hg, h4]; omega⟩
      obtain ⟨h3, rfl⟩ := List.getElem?_eq_some_iff.1 hx
      rw [List.take_succ_eq_append_getElem h3, ← hfl]
      simp
theorem cutP_greedy {one : α → Nat} (h0 : sz [] = 0) (h1 : ∀ a x, sz (a ++ [x]) = sz a + one x) {l : List α} (hr : ∀ x ∈ l, one x ≤ room) : Greedy sz room (cutP (fun x => ((one x : Nat) : Int)) room l) ∧ (cutP (fun x => ((one x : Nat) : Int)) room l).flatten = l := by
 by_cases hl : l = []
 ·subst hl; exact ⟨trivial, rfl⟩
 ·obtain ⟨E, left, h⟩ := cutAt_is (l := l.map fun x => ((one x : Nat) : Int)) (room := room) (k := l.length) (fun j hj => by
   have hx : l[j]? = some l[j] := List.getElem?_eq_getElem hj
   have := hr _ (List.getElem_mem hj)
   rw [List.getD_eq_getElem?_getD, List.getElem?_map, hx]
   show (0 : Int) ≤ ((one l[j] : Nat) : Int) ∧ ((one l[j] : Nat) : Int) ≤ room
   omega)
  have hc := cutL_some (l := l.map fun x => ((one x : Nat) : Int)) (room := room) (E := E) (left := left) (by rw [List.length_map]; exact h) (by simpa using hl)
  rw [List.length_map] at hc
  have hpos : 0 < l.length := List.length_pos_iff.2 hl
  rcases cutAt_greedy h0 h1 (Nat.le_refl _) h with ⟨h2, _⟩ | ⟨P, s, hP, hsg, hlast, hne, hgr, hfl, hleft⟩
  ·omega
  ·have : cutP (fun x => ((one x : Nat) : Int)) room l = P ++ [s] := by
    unfold cutP
    rw [hc, partsBy_append, hP, hsg]
    rfl
   rw [this]
   exact ⟨hgr, by rw [hfl, List.take_length]⟩
end
end Go.Proofs.Ytgnpldlgdapehaa

namespace Go.Proofs.Ytgnpldlgdapehaa
open Go.RowKit
open Go.Lib

theorem six_at {w : World} {b : Nat} {t : TypeId} {z0 z1 z2 z3 z4 z5 a0 a1 a2 a3 a4 a5 : Value} (h : Blk w b t #[z0, z1, z2, z3, z4, z5]) : Blk ((((((w.setCell ⟨b, 0, none⟩ a0).setCell ⟨b, 1, none⟩ a1).setCell ⟨b, 2, none⟩ a2).setCell ⟨b, 3, none⟩ a3).setCell ⟨b, 4, none⟩ a4).setCell ⟨b, 5, none⟩ a5) b t #[a0, a1, a2, a3, a4, a5] :=
 (((((h.set_ 0 a0).set_ 1 a1).set_ 2 a2).set_ 3 a3).set_ 4 a4).set_ 5 a5
theorem six_below {w0 w : World} {B b : Nat} {a0 a1 a2 a3 a4 a5 : Value} (h : Below B w0 w) (hb : B ≤ b) : Below B w0 ((((((w.setCell ⟨b, 0, none⟩ a0).setCell ⟨b, 1, none⟩ a1).setCell ⟨b, 2, none⟩ a2).setCell ⟨b, 3, none⟩ a3).setCell ⟨b, 4, none⟩ a4).setCell ⟨b, 5, none⟩ a5) :=
 (((((h.setCell hb a0).setCell hb a1).setCell hb a2).setCell hb a3).setCell hb a4).setCell hb a5
theorem infoPg : (Try.prog.info? 65).map (fun i => (i.zero, i.size)) = some (some (.agg #[.int .i64 0, .int .i64 0, .int .u32 0, .int .u32 0, .int .u64 0, .string ByteArray.empty]), 6) := by kernel_rfl

theorem read_row {fn : Func} {p u : Tmp} {ty : TypeId} (h : fn.results = #[.cell p ty, .tmp u]) (tmps : Array Value) (P : Program) (w : World) (g : Nat) (cs : Array Value)
  (hp : tmps.getD p undef = .pointer (some ⟨g, 0, none⟩)) (hl : (loadVar ty ⟨g, 0, none⟩).run P w = .ok (.agg cs) w) :
  (results fn tmps).run P w = .ok (.tuple #[.agg cs, tmps.getD u undef]) w := by
 rw [results_cell_tmp h, hp]
 simp [asAddr, hl]
theorem load_page {w : World} {g : Nat} {a0 a1 a2 a3 a4 a5 : Value} (h : Blk w g 65 #[a0, a1, a2, a3, a4, a5]) : (loadVar 65 ⟨g, 0, none⟩).run Try.prog w = .ok (.agg #[a0, a1, a2, a3, a4, a5]) w := by
 obtain ⟨hz, hi⟩ := zero_of_info infoPg
 exact run_loadVar_row w g 65 65 #[a0, a1, a2, a3, a4, a5] (0, 0) _ h Try.underlying65 rfl hi

end Go.Proofs.Ytgnpldlgdapehaa

namespace Go.Proofs.Ytgnpldlgdapehaa
open Go.RowKit Go.ChangeShapes Go.WideShapes
open Go.Deep (open_slice choose_lt)

instance : Inhabited Bk := ⟨⟨⟨#[]⟩, 0, 0⟩⟩
theorem lit_i64' {z : Int} (h : (Lit.int .i64 z).wf = true) : -9223372036854775808 ≤ z ∧ z ≤ 9223372036854775807 := by
 simp [Lit.wf, IntKind.min, IntKind.max, IntKind.signed, IntKind.bits] at h
 omega
theorem lit_u32' {z : Int} (h : (Lit.int .u32 z).wf = true) : 0 ≤ z ∧ z ≤ 4294967295 := by
 simp [Lit.wf, IntKind.min, IntKind.max, IntKind.signed, IntKind.bits] at h
 omega
section
variable {H : Type} {enc : TypeId × Value → H} {w : World} {base : Nat} {spare : Nat → Bool} {held : Bool}
end
end Go.Proofs.Ytgnpldlgdapehaa

