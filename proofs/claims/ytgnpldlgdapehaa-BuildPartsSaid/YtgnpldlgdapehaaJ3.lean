/-
  Texts that the main proof rests on, put together: BuCut, Bytes, OwnW, Kept, StructRows, It, Fk, Crc, Good, Bk, Ref6Find, Order, IterU, BuGr, PgWords, BkOpen, FkOpen. No statement is proved here.
-/
import Derived.Test.YtgnpldlgdapehaaJ1
import Derived.Laws.MakeOwn
import Derived.Laws.CopyRow
import Derived.Laws.AppendOwn
import Derived.Sort.Walk0
import Derived.Test.YtgnpldlgdapehaaJ2
import Derived.Deep.WholeRow
import Derived.Deep.DrawnRows
import Derived.Lib.Hide
import Derived.Deep.RegionHeld3
import Derived.RangeFuncNested
import Derived.RangeFuncBound
import Derived.Laws.ResultCell
import Derived.Deep.Slices
import Derived.ChangeSame
import Derived.SizedLaws
set_option linter.unusedVariables false
set_option linter.unusedSimpArgs false
namespace Go.Proofs.Ytgnpldlgdapehaa
open Go.RowKit

def cutAt (l : List Int) (room : Int) : Nat → Option (List Nat × Int)
 | 0 => some ([], room)
 | k + 1 => (cutAt l room k).bind fun t => if l.getD k 0 < 0 ∨ room < l.getD k 0 then none else if t.2 < l.getD k 0 then some (t.1 ++ [k], room - l.getD k 0) else some (t.1, t.2 - l.getD k 0)
def cutL (l : List Int) (room : Int) : List Nat :=
 match cutAt l room l.length with
 | none => []
 | some t => if l = [] then [] else t.1 ++ [l.length]
theorem cutAt_none {l : List Int} {room : Int} {k : Nat} (h : cutAt l room k = none) : ∀ j, cutAt l room (k + j) = none
 | 0 => h
 | j + 1 => by
  have h1 := cutAt_none h j
  show (cutAt l room (k + j)).bind _ = none
  rw [h1]
  rfl
theorem cutL_none {l : List Int} {room : Int} {k : Nat} (h : cutAt l room k = none) (hk : k ≤ l.length) : cutL l room = [] := by
 have h1 := cutAt_none h (l.length - k)
 rw [show k + (l.length - k) = l.length by omega] at h1
 unfold cutL
 rw [h1]
theorem cutL_some {l : List Int} {room : Int} {E : List Nat} {left : Int} (h : cutAt l room l.length = some (E, left)) (h0 : l ≠ []) : cutL l room = E ++ [l.length] := by
 unfold cutL
 rw [h]
 simp only [if_neg h0]
theorem cutAt_bad {l : List Int} {room : Int} {k : Nat} {E : List Nat} {left : Int} (h : cutAt l room k = some (E, left)) (h1 : l.getD k 0 < 0 ∨ room < l.getD k 0) : cutAt l room (k + 1) = none := by
 show (cutAt l room k).bind _ = none
 rw [h]
 exact if_pos h1
theorem cutAt_new {l : List Int} {room : Int} {k : Nat} {E : List Nat} {left : Int} (h : cutAt l room k = some (E, left)) (h1 : ¬ (l.getD k 0 < 0 ∨ room < l.getD k 0)) (h2 : left < l.getD k 0) : cutAt l room (k + 1) = some (E ++ [k], room - l.getD k 0) := by
 show (cutAt l room k).bind _ = _
 rw [h]
 show (if _ then _ else _) = _
 rw [if_neg h1, if_pos h2]
theorem cutAt_old {l : List Int} {room : Int} {k : Nat} {E : List Nat} {left : Int} (h : cutAt l room k = some (E, left)) (h1 : ¬ (l.getD k 0 < 0 ∨ room < l.getD k 0)) (h2 : ¬ left < l.getD k 0) : cutAt l room (k + 1) = some (E, left - l.getD k 0) := by
 show (cutAt l room k).bind _ = _
 rw [h]
 show (if _ then _ else _) = _
 rw [if_neg h1, if_neg h2]
theorem cutAt_left {l : List Int} {room : Int} : ∀ {k : Nat} {E : List Nat} {left : Int}, cutAt l room k = some (E, left) → (0 < k → 0 ≤ left) ∧ left ≤ room ∧ E.length ≤ k ∧ ∀ e ∈ E, e < k
 | 0, E, left, h => by
  have h : some ([], room) = some (E, left) := h
  injection h with h
  injection h with h1 h2
  subst h1 h2
  simp
 | k + 1, E, left, h => by
  cases hk : cutAt l room k with
  | none =>
   have := cutAt_none hk 1
   rw [this] at h
   cases h
  | some t =>
   obtain ⟨E0, left0⟩ := t
   obtain ⟨a, b, c, d⟩ := cutAt_left hk
   by_cases h1 : l.getD k 0 < 0 ∨ room < l.getD k 0
   ·rw [cutAt_bad hk h1] at h; cases h
   ·by_cases h2 : left0 < l.getD k 0
    ·rw [cutAt_new hk h1 h2] at h
     injection h with h
     injection h with e1 e2
     subst e1 e2
     refine ⟨fun _ => by omega, by omega, by simp; omega, fun e he => ?_⟩
     rcases List.mem_append.1 he with he | he
     ·have := d e he; omega
     ·simp at he; omega
    ·rw [cutAt_old hk h1 h2] at h
     injection h with h
     injection h with e1 e2
     subst e1 e2
     exact ⟨fun _ => by omega, by omega, by omega, fun e he => by have := d e he; omega⟩
theorem cutL_length (l : List Int) (room : Int) : (cutL l room).length ≤ l.length ∧ ∀ e ∈ cutL l room, e ≤ l.length := by
 unfold cutL
 cases h : cutAt l room l.length with
 | none => simp
 | some t =>
  obtain ⟨E, left⟩ := t
  by_cases h0 : l = []
  ·simp [h0]
  ·simp only [if_neg h0]
   obtain ⟨a, b, c, d⟩ := cutAt_left h
   have hp : 0 < l.length := List.length_pos_iff.2 h0
   refine ⟨?_, fun e he => ?_⟩
   ·have hlen : E.length < l.length := by
     -- the first size makes no end
     obtain ⟨m, hm⟩ : ∃ m, l.length = m + 1 := ⟨l.length - 1, by omega⟩
     have key : ∀ {k : Nat} {E : List Nat} {left : Int}, cutAt l room (k + 1) = some (E, left) → E.length ≤ k := by
      intro k
      induction k with
      | zero =>
       intro E left h
       by_cases h1 : l.getD 0 0 < 0 ∨ room < l.getD 0 0
       ·rw [cutAt_bad (E := []) (left := room) rfl h1] at h; cases h
       ·rw [cutAt_old (E := []) (left := room) rfl h1 (by omega)] at h
        injection h with h; injection h with e1 e2; subst e1; simp
      | succ k ih =>
       intro E left h
       cases hk : cutAt l room (k + 1) with
       | none => have := cutAt_none hk 1; rw [this] at h; cases h
       | some t =>
        obtain ⟨E0, left0⟩ := t
        have := ih hk
        by_cases h1 : l.getD (k + 1) 0 < 0 ∨ room < l.getD (k + 1) 0
        ·rw [cutAt_bad hk h1] at h; cases h
        ·by_cases h2 : left0 < l.getD (k + 1) 0
         ·rw [cutAt_new hk h1 h2] at h
          injection h with h; injection h with e1 e2; subst e1; simp; omega
         ·rw [cutAt_old hk h1 h2] at h
          injection h with h; injection h with e1 e2; subst e1; omega
     have := key (k := m) (E := E) (left := left) (by rw [← hm]; exact h)
     omega
    rw [List.length_append]
    simp
    omega
   ·rcases List.mem_append.1 he with he | he
    ·have := d e he; omega
    ·simp at he; omega
def partsBy {α : Type} (l : List α) : Nat → List Nat → List (List α)
 | _, [] => []
 | at_, e :: E => (l.drop at_).take (e - at_) :: partsBy l e E
theorem partsBy_append {α : Type} (l : List α) : ∀ (E F : List Nat) (s : Nat), partsBy l s (E ++ F) = partsBy l s E ++ partsBy l (E.getLast?.getD s) F
 | [], F, s => rfl
 | [e], F, s => by simp [partsBy]
 | e :: e2 :: E, F, s => by
  have h := partsBy_append l (e2 :: E) F e
  have hg : ((e :: e2 :: E).getLast?.getD s) = ((e2 :: E).getLast?.getD e) := by
   rw [List.getLast?_cons_cons]
   obtain ⟨x, hx⟩ : ∃ x, (e2 :: E).getLast? = some x := ⟨(e2 :: E).getLast (by simp), List.getLast?_eq_some_getLast _⟩
   rw [hx]; rfl
  rw [hg]
  show _ :: partsBy l e ((e2 :: E) ++ F) = _
  rw [h]
  rfl
theorem partsBy_length {α : Type} (l : List α) : ∀ (E : List Nat) (s : Nat), (partsBy l s E).length = E.length
 | [], s => rfl
 | e :: E, s => by simp [partsBy, partsBy_length l E]
def cutP {α : Type} (one : α → Int) (room : Int) (l : List α) : List (List α) := partsBy l 0 (cutL (l.map one) room)
theorem cutAt_fine {l : List Int} {room : Int} : ∀ {k : Nat} {t : List Nat × Int}, cutAt l room k = some t → ∀ j, j < k → 0 ≤ l.getD j 0 ∧ l.getD j 0 ≤ room
 | 0, t, h, j, hj => by omega
 | k + 1, t, h, j, hj => by
  cases hk : cutAt l room k with
  | none => rw [cutAt_none hk 1] at h; cases h
  | some t0 =>
   obtain ⟨E0, left0⟩ := t0
   by_cases h1 : l.getD k 0 < 0 ∨ room < l.getD k 0
   ·rw [cutAt_bad hk h1] at h; cases h
   ·by_cases hjk : j < k
    ·exact cutAt_fine hk j hjk
    ·obtain rfl : j = k := by omega
     omega
theorem cutAt_is {l : List Int} {room : Int} : ∀ {k : Nat}, (∀ j, j < k → 0 ≤ l.getD j 0 ∧ l.getD j 0 ≤ room) → ∃ E left, cutAt l room k = some (E, left)
 | 0, _ => ⟨_, _, rfl⟩
 | k + 1, h => by
  obtain ⟨E, left, h0⟩ := cutAt_is (l := l) (room := room) (k := k) (fun j hj => h j (by omega))
  have := h k (by omega)
  by_cases h2 : left < l.getD k 0
  ·exact ⟨_, _, cutAt_new h0 (by omega) h2⟩
  ·exact ⟨_, _, cutAt_old h0 (by omega) h2⟩

end Go.Proofs.Ytgnpldlgdapehaa

namespace Go.Proofs.Ytgnpldlgdapehaa
open Go.RowKit Go.Lib

def MRow (w : World) (g : Nat) (l : List UInt8) : Prop := g < w.heap.size ∧ ∀ j b, l[j]? = some b → w.cell? ⟨g, j, none⟩ = some (.int .u8 (b.toNat : Int)) ∧ w.frozen? ⟨g, j, none⟩ = false
section
variable {w w' : World} {g : Nat} {l : List UInt8}
theorem MRow.reads (h : MRow w g l) : Reads w w.heap.size 1 (some ⟨g, 0, none⟩) l.length (bcells l) := by
 refine ⟨by rw [bcells_length, Nat.mul_one], fun _ => ⟨_, rfl, h.1, fun j u hu => ?_⟩⟩
 unfold bcells at hu
 rw [List.getElem?_map] at hu
 obtain ⟨b, hb, rfl⟩ := Option.map_eq_some_iff.1 hu
 have e : (⟨g, 0, none⟩ : Addr).add j = ⟨g, j, none⟩ := by unfold Addr.add; split <;> simp_all
 rw [e]
 exact (h.2 j b hb).1
theorem MRow.of_cells (w : World) (t : TypeId) (l : List UInt8) (cs : Array Value) (h : cs.toList = bcells l) : MRow (w.alloc (.cells cs t)) w.heap.size l := by
 refine ⟨by simp, fun j b hj => ⟨?_, frozen_of_row _ _ _ cs t ?_⟩⟩
 ·rw [World.cell?_alloc_mark, ← Array.getElem?_toList, h, bcells, List.getElem?_map, hj]; rfl
 ·exact heap_alloc_new _ _
end
theorem run_make_bytes {P : Program} (t e : TypeId) (ht : P.underlying t = some (.slice e)) (hi : (P.info? e).map (fun i => (i.zero, i.size, i.bytes)) = some (some (.int .u8 0), 1, 1)) (n : Nat) (hn : n ≤ 281474976710656) (w : World) :
  (Instr.makeSlice t (.int .i64 (n : Int)) (.int .i64 (n : Int))).run P w = .ok (.slice (some ⟨w.heap.size, 0, none⟩) n n) (w.alloc (.cells (madeCells #[.int .u8 0] n) e)) := by
 obtain ⟨i, hi0, hz, hs, hb⟩ := info_parts hi
 have hr := run_make (P := P) w t e i _ ht hi0 hz .i64 .i64 n n (by omega) (by omega) (by rw [hb]; omega) (by omega)
 simp only [Int.toNat_natCast] at hr
 rw [hs, Nat.mul_one] at hr
 exact hr
theorem MRow.of_made (w : World) (t : TypeId) (n : Nat) : MRow (w.alloc (.cells (madeCells #[.int .u8 0] n) t)) w.heap.size (List.replicate n 0) :=
 MRow.of_cells w t _ _ (by rw [toList_madeCells_one]; simp [bcells])
theorem wrap64_nat (k : Nat) (h : k < 9223372036854775808) : wrap64 (k : Int) = (k : Int) := by unfold wrap64; omega
theorem i64_nat (k : Nat) (h : k < 9223372036854775808) : IntKind.i64.wrap (k : Int) = (k : Int) := by rw [IntKind.wrap_i64]; omega
end Go.Proofs.Ytgnpldlgdapehaa

namespace Go.Proofs.Ytgnpldlgdapehaa
open Go.RowKit
open Go.Lib

theorem grown_of_below {w w' : World} (h : Below w.heap.size w w') : w.grownBy w' none := ⟨h.os, h.tape, h.output, h.size, fun k hk _ => h.block k hk⟩
theorem own_below {w w' : World} {base : Nat} {e : TypeId} {size : Nat} {v : Value} {n : Nat} {xs : List Value} (ho : w.ownsRow base e size v n xs) (h : Below w.heap.size w w') : w'.ownsRow base e size v n xs :=
 ho.kept (grown_of_below h) (by rcases v.ownBlock with _ | g <;> simp)
theorem own_type {w : World} {base : Nat} {e : TypeId} {size : Nat} {v : Value} {n : Nat} {xs : List Value} (ho : w.ownsRow base e size v n xs) {g : Nat} {t : TypeId} {cs : Array Value} (hB : Blk w g t cs) (hne : t ≠ e) : some g ≠ v.ownBlock := by
 rcases ho.2 with ⟨rfl, _⟩ | ⟨g', cap, cur, rfl, _, hg', _⟩
 ·simp [Value.ownBlock]
 ·intro h
  simp [Value.ownBlock] at h
  exact Blk.ne_ hB hg' hne h
theorem own_ne {w : World} {base : Nat} {e : TypeId} {size : Nat} {v : Value} {n : Nat} {xs : List Value} (h : w.ownsRow base e size v n xs) {g : Nat} (hg : g < base) : some g ≠ v.ownBlock := fun he => by
 have := (h.lt g he.symm).1
 omega
theorem own_base {w : World} {base : Nat} {e : TypeId} {size : Nat} {v : Value} {n : Nat} {xs : List Value} (h : w.ownsRow base e size v n xs) : ∀ g, v.ownBlock = some g → base ≤ g := by
 rcases h.2 with ⟨rfl, rfl⟩ | ⟨g', cap, cur, rfl, hb, _⟩
 ·simp [Value.ownBlock]
 ·intro g hg
  simp [Value.ownBlock] at hg
  omega
theorem own_low {w : World} {base B : Nat} {e : TypeId} {size : Nat} {v : Value} {n : Nat} {xs : List Value} (h : w.ownsRow base e size v n xs) (hB : B ≤ base) : w.ownsRow B e size v n xs := by
 refine ⟨h.1, ?_⟩
 rcases h.2 with h2 | ⟨g', cap, cur, h1, hb, h3⟩
 ·exact Or.inl h2
 ·exact Or.inr ⟨g', cap, cur, h1, Nat.le_trans hB hb, h3⟩
end Go.Proofs.Ytgnpldlgdapehaa

namespace Go.Proofs.Ytgnpldlgdapehaa
open Go.RowKit Go.Lib

structure Kept (F : Nat → Prop) (w w' : World) : Prop where
 os : w'.os = w.os
 tape : w'.tape = w.tape
 output : w'.output = w.output
 size : w.heap.size ≤ w'.heap.size
 block : ∀ k, k < w.heap.size → ¬ F k → w'.heap[k]? = w.heap[k]?

section
variable {F G : Nat → Prop} {a w w' : World} {B g : Nat} {t : TypeId} {cs : Array Value}
theorem Kept.refl (F : Nat → Prop) (w : World) : Kept F w w := ⟨rfl, rfl, rfl, Nat.le_refl _, fun _ _ _ => rfl⟩
theorem Kept.trans (h : Kept F a w) (k : Kept F w w') : Kept F a w' :=
 ⟨k.os.trans h.os, k.tape.trans h.tape, k.output.trans h.output, Nat.le_trans h.size k.size, fun i hi hn => (k.block i (Nat.lt_of_lt_of_le hi h.size) hn).trans (h.block i hi hn)⟩
theorem Kept.then (h : Kept F a w) (k : Kept G w w') (hG : ∀ i, G i → F i ∨ a.heap.size ≤ i) : Kept F a w' :=
 ⟨k.os.trans h.os, k.tape.trans h.tape, k.output.trans h.output, Nat.le_trans h.size k.size, fun i hi hn =>
  (k.block i (Nat.lt_of_lt_of_le hi h.size) (fun hg => by rcases hG i hg with h1 | h1; exact hn h1; omega)).trans (h.block i hi hn)⟩
theorem Kept.mono (h : Kept F w w') (hG : ∀ i, F i → G i) : Kept G w w' := ⟨h.os, h.tape, h.output, h.size, fun i hi hn => h.block i hi fun hf => hn (hG i hf)⟩
theorem Kept.of_below (h : Below B w w') (hF : ∀ k, B ≤ k → k < w.heap.size → F k) : Kept F w w' :=
 ⟨h.os, h.tape, h.output, h.size, fun i hi hn => h.block i (by rcases Nat.lt_or_ge i B with h1 | h1; exact h1; exact absurd (hF i h1 hi) hn)⟩
theorem Kept.of_new (h : Below w.heap.size w w') : Kept F w w' := Kept.of_below h fun k h1 h2 => by omega
theorem Kept.of_grown {row : Option Nat} (h : w.grownBy w' row) (hF : ∀ k, row = some k → F k) : Kept F w w' :=
 ⟨h.os, h.tape, h.output, h.size, fun i hi hn => h.block i hi fun e => hn (hF i e.symm)⟩
theorem Kept.drew (h : Kept F a w) : Kept F a w.drew := ⟨h.os, h.tape, h.output, h.size, h.block⟩
theorem Kept.setCell (h : Kept F a w) {p : Addr} (hp : F p.block ∨ a.heap.size ≤ p.block) (u : Value) : Kept F a (w.setCell p u) :=
 h.then (G := fun k => k = p.block) ⟨rfl, rfl, rfl, by simp [World.setCell], fun k hk hn => Below.heap_setCell _ _ _ _ hn⟩ (by rintro i rfl; exact hp)
theorem Kept.grown (h : Kept F a w) {row : Option Nat} (hg : w.grownBy w' row) (hr : ∀ k, row = some k → F k ∨ a.heap.size ≤ k) : Kept F a w' :=
 h.then (G := fun k => row = some k) (Kept.of_grown hg fun k e => e) hr
theorem Kept.below (h : Kept F w w') (hF : ∀ k, F k → B ≤ k) (hB : B ≤ w.heap.size) : Below B w w' :=
 ⟨h.os, h.tape, h.output, h.size, fun k hk => h.block k (by omega) fun hf => by have := hF k hf; omega⟩
theorem Kept.blk (h : Kept F w w') (hb : Blk w g t cs) (hn : ¬ F g) : Blk w' g t cs := (h.block g hb.lt hn).trans hb
theorem Kept.own (h : Kept F w w') {base size n : Nat} {e : TypeId} {v : Value} {xs : List Value} (ho : w.ownsRow base e size v n xs) (hn : ∀ k, v.ownBlock = some k → ¬ F k) : w'.ownsRow base e size v n xs := by
 refine ⟨ho.1, ?_⟩
 rcases ho.2 with h0 | ⟨g, cap, cur, rfl, hb, hh, h1, h2, h3, h4⟩
 ·exact .inl h0
 ·have hlt : g < w.heap.size := (ho.lt g rfl).2
  exact .inr ⟨g, cap, cur, rfl, hb, (h.block g hlt (hn g rfl)).trans hh, h1, h2, h3, h4⟩
end

theorem own_ne_blk {w : World} {base size n g : Nat} {e t : TypeId} {v : Value} {xs : List Value} {cs : Array Value} (ho : w.ownsRow base e size v n xs) (hb : Blk w g t cs) (hne : e ≠ t) : v.ownBlock ≠ some g := by
 rcases ho.2 with ⟨rfl, _⟩ | ⟨g', cap, cur, rfl, _, hh, _⟩
 ·simp [Value.ownBlock]
 ·intro he
  have : g' = g := by simpa [Value.ownBlock] using he
  subst this
  exact Blk.ne_ (t := e) hh hb hne rfl
theorem own_ne_own {w : World} {base base' size size' n n' g : Nat} {e e' : TypeId} {v v' : Value} {xs xs' : List Value} (ho : w.ownsRow base e size v n xs) (ho' : w.ownsRow base' e' size' v' n' xs') (hne : e ≠ e') (hg : v.ownBlock = some g) : v'.ownBlock ≠ some g := by
 rcases ho.2 with ⟨rfl, _⟩ | ⟨g', cap, cur, rfl, _, hh, _⟩
 ·simp [Value.ownBlock] at hg
 ·have : g' = g := by simpa [Value.ownBlock] using hg
  subst this
  exact own_ne_blk ho' (t := e) hh (fun h => hne h.symm)
end Go.Proofs.Ytgnpldlgdapehaa

namespace Go.Proofs.Ytgnpldlgdapehaa
open Go.RowKit

def rowsOf {α : Type} (f : α → List Value) (l : List α) : List Value := l.flatMap f
section
variable {α : Type} {f : α → List Value} {k : Nat}
theorem rowsOf_length (hf : ∀ x, (f x).length = k) : ∀ l : List α, (rowsOf f l).length = l.length * k
 | [] => by simp [rowsOf]
 | x :: l => by
  have ih := rowsOf_length hf l
  simp only [rowsOf, List.flatMap_cons, List.length_append, hf x, List.length_cons] at ih ⊢
  rw [ih, Nat.add_mul, Nat.one_mul, Nat.add_comm]
theorem rowsOf_append (l m : List α) : rowsOf f (l ++ m) = rowsOf f l ++ rowsOf f m := by simp [rowsOf]
theorem rowsOf_get (hf : ∀ x, (f x).length = k) : ∀ (l : List α) (i j : Nat) (x : α), l[i]? = some x → j < k → (rowsOf f l)[i * k + j]? = (f x)[j]?
 | [], i, j, x, h, _ => by simp at h
 | y :: l, 0, j, x, h, hj => by
  simp at h
  subst h
  simp only [rowsOf, List.flatMap_cons, Nat.zero_mul, Nat.zero_add]
  rw [List.getElem?_append_left (by rw [hf]; exact hj)]
 | y :: l, i + 1, j, x, h, hj => by
  have ih := rowsOf_get hf l i j x (by simpa using h) hj
  simp only [rowsOf, List.flatMap_cons] at ih ⊢
  rw [List.getElem?_append_right (by rw [hf, Nat.add_mul]; omega), hf, show (i + 1) * k + j - k = i * k + j by rw [Nat.add_mul]; omega]
  exact ih
theorem rowsOf_drop (hf : ∀ x, (f x).length = k) : ∀ (l : List α) (n : Nat), (rowsOf f l).drop (n * k) = rowsOf f (l.drop n)
 | l, 0 => by simp
 | [], n + 1 => by simp [rowsOf]
 | y :: l, n + 1 => by
  have ih := rowsOf_drop hf l n
  simp only [rowsOf, List.flatMap_cons, List.drop_succ_cons] at ih ⊢
  rw [Nat.add_mul, Nat.one_mul, Nat.add_comm (n * k) k, ← List.drop_drop, List.drop_left' (hf y)]
  exact ih
theorem rowsOf_take (hf : ∀ x, (f x).length = k) : ∀ (l : List α) (n : Nat), (rowsOf f l).take (n * k) = rowsOf f (l.take n)
 | l, 0 => by simp [rowsOf]
 | [], n + 1 => by simp [rowsOf]
 | y :: l, n + 1 => by
  have ih := rowsOf_take hf l n
  simp only [rowsOf, List.flatMap_cons, List.take_succ_cons] at ih ⊢
  rw [Nat.add_mul, Nat.one_mul, Nat.add_comm (n * k) k, List.take_append, hf y, List.take_of_length_le (by rw [hf y]; omega), show k + n * k - k = n * k by omega, ih]
theorem row_at (hf : ∀ x, (f x).length = k) (hk : 0 < k) {w : World} {B n i : Nat} {A : Option Addr} {l : List α} (h : Reads w B k A n (rowsOf f l)) (hi : i < n) :
  ∃ ad x, A = some ad ∧ ad.block < B ∧ l[i]? = some x ∧ ∀ j u, (f x)[j]? = some u → w.cell? ((ad.add (i * k)).add j) = some u := by
 obtain ⟨ad, hA, hb, hc⟩ := h.2 (by omega)
 have hl : l.length = n := by
  have := h.1
  rw [rowsOf_length hf] at this
  exact Nat.eq_of_mul_eq_mul_right hk this
 have hi' : i < l.length := by omega
 refine ⟨ad, l[i], hA, hb, List.getElem?_eq_getElem hi', fun j u hu => ?_⟩
 have hj : j < k := by rw [← hf l[i]]; exact (List.getElem?_eq_some_iff.1 hu).1
 rw [add_add]
 exact hc _ u (by rw [rowsOf_get hf l i j l[i] (List.getElem?_eq_getElem hi') hj]; exact hu)
theorem rows_len (hf : ∀ x, (f x).length = k) (hk : 0 < k) {w : World} {B n : Nat} {A : Option Addr} {l : List α} (h : Reads w B k A n (rowsOf f l)) : l.length = n := by
 have := h.1
 rw [rowsOf_length hf] at this
 exact Nat.eq_of_mul_eq_mul_right hk this
theorem rows_take (hf : ∀ x, (f x).length = k) {w : World} {B n m : Nat} {A : Option Addr} {l : List α} (h : Reads w B k A n (rowsOf f l)) (hm : m ≤ n) : Reads w B k A m (rowsOf f (l.take m)) := by
 rw [← rowsOf_take hf]
 have hnm : m * k ≤ n * k := Nat.mul_le_mul_right k hm
 refine ⟨by rw [List.length_take, h.1]; omega, fun h0 => ?_⟩
 obtain ⟨ad, hA, hb, hc⟩ := h.2 (by omega)
 refine ⟨ad, hA, hb, fun j u hu => hc j u ?_⟩
 rw [List.getElem?_take] at hu
 split at hu
 ·exact hu
 ·cases hu
theorem rows_drop (hf : ∀ x, (f x).length = k) {w : World} {B n m cap : Nat} {A : Option Addr} {l : List α} (h : Reads w B k A n (rowsOf f l)) (hm : m ≤ n) (hc : n ≤ cap) : Reads w B k (if cap = m then A else A.map (·.add (m * k))) (n - m) (rowsOf f (l.drop m)) := by
 rw [← rowsOf_drop hf]
 exact h.cut hm hc
end
end Go.Proofs.Ytgnpldlgdapehaa

namespace Go.Proofs.Ytgnpldlgdapehaa
open Go.RowKit

theorem cells5 {w : World} {p : Addr} {v0 v1 v2 v3 v4 : Value} (h : ∀ j u, ([v0, v1, v2, v3, v4] : List Value)[j]? = some u → w.cell? (p.add j) = some u) :
  w.cell? p = some v0 ∧ w.cell? ⟨p.block, p.off + 1, none⟩ = some v1 ∧ w.cell? ⟨p.block, p.off + 2, none⟩ = some v2 ∧ w.cell? ⟨p.block, p.off + 3, none⟩ = some v3 ∧ w.cell? ⟨p.block, p.off + 4, none⟩ = some v4 := by
 have e : ∀ k, 0 < k → p.add k = ⟨p.block, p.off + k, none⟩ := fun k hk => by unfold Addr.add; rw [if_neg (by omega)]
 refine ⟨h 0 _ rfl, ?_, ?_, ?_, ?_⟩
 ·rw [← e 1 (by decide)]; exact h 1 _ rfl
 ·rw [← e 2 (by decide)]; exact h 2 _ rfl
 ·rw [← e 3 (by decide)]; exact h 3 _ rfl
 ·rw [← e 4 (by decide)]; exact h 4 _ rfl
structure It where
 ky : ByteArray
 vl : ByteArray
 ov : Bool
 ln : Int
 hd : Nat
def It.cells (b : It) : List Value := [.string b.ky, .string b.vl, .bool b.ov, .int .i64 b.ln, .int .u32 b.hd]
theorem It.cells_len (b : It) : b.cells.length = 5 := rfl
def itc (l : List It) : List Value := rowsOf It.cells l
def ItAt (w : World) (p : Addr) (b : It) : Prop := w.cell? p = some (.string b.ky) ∧ w.cell? ⟨p.block, p.off + 1, none⟩ = some (.string b.vl) ∧ w.cell? ⟨p.block, p.off + 2, none⟩ = some (.bool b.ov) ∧ w.cell? ⟨p.block, p.off + 3, none⟩ = some (.int .i64 b.ln) ∧ w.cell? ⟨p.block, p.off + 4, none⟩ = some (.int .u32 b.hd)
theorem ItAt.below {w w' : World} {B : Nat} {p : Addr} {b : It} (h : ItAt w p b) (hb : Below B w w') (hp : p.block < B) : ItAt w' p b :=
 ⟨(hb.cell (p := p) hp).trans h.1, (hb.cell (p := ⟨p.block, p.off + 1, none⟩) hp).trans h.2.1, (hb.cell (p := ⟨p.block, p.off + 2, none⟩) hp).trans h.2.2.1, (hb.cell (p := ⟨p.block, p.off + 3, none⟩) hp).trans h.2.2.2.1, (hb.cell (p := ⟨p.block, p.off + 4, none⟩) hp).trans h.2.2.2.2⟩
theorem it_at {w : World} {B n i : Nat} {A : Option Addr} {l : List It} (h : Reads w B 5 A n (itc l)) (hi : i < n) :
  ∃ ad x, A = some ad ∧ ad.block < B ∧ (ad.add (i * 5)).block < B ∧ l[i]? = some x ∧ ItAt w (ad.add (i * 5)) x := by
 obtain ⟨ad, x, hA, hb, hx, hc⟩ := row_at (fun b => It.cells_len b) (by decide) h hi
 exact ⟨ad, x, hA, hb, by rw [block_add]; exact hb, hx, cells5 hc⟩
theorem it_len {w : World} {B n : Nat} {A : Option Addr} {l : List It} (h : Reads w B 5 A n (itc l)) : l.length = n := rows_len (fun b => It.cells_len b) (by decide) h
theorem it_take {w : World} {B n m : Nat} {A : Option Addr} {l : List It} (h : Reads w B 5 A n (itc l)) (hm : m ≤ n) : Reads w B 5 A m (itc (l.take m)) := rows_take (fun b => It.cells_len b) h hm
theorem it_drop {w : World} {B n m cap : Nat} {A : Option Addr} {l : List It} (h : Reads w B 5 A n (itc l)) (hm : m ≤ n) (hc : n ≤ cap) : Reads w B 5 (if cap = m then A else A.map (·.add (m * 5))) (n - m) (itc (l.drop m)) := rows_drop (fun b => It.cells_len b) h hm hc
theorem itc_append (l m : List It) : itc (l ++ m) = itc l ++ itc m := rowsOf_append l m
end Go.Proofs.Ytgnpldlgdapehaa

namespace Go.Proofs.Ytgnpldlgdapehaa
open Go.RowKit

theorem cells2 {w : World} {p : Addr} {v0 v1 : Value} (h : ∀ j u, ([v0, v1] : List Value)[j]? = some u → w.cell? (p.add j) = some u) : w.cell? p = some v0 ∧ w.cell? ⟨p.block, p.off + 1, none⟩ = some v1 := by
 have e : p.add 1 = ⟨p.block, p.off + 1, none⟩ := by unfold Addr.add; rw [if_neg (by omega)]
 refine ⟨h 0 _ rfl, ?_⟩
 rw [← e]
 exact h 1 _ rfl
structure Fk where
 nm : ByteArray
 rt : Nat
def Fk.cells (b : Fk) : List Value := [.string b.nm, .int .u32 b.rt]
theorem Fk.cells_len (b : Fk) : b.cells.length = 2 := rfl
def fkc (l : List Fk) : List Value := rowsOf Fk.cells l
def FkAt (w : World) (p : Addr) (b : Fk) : Prop := w.cell? p = some (.string b.nm) ∧ w.cell? ⟨p.block, p.off + 1, none⟩ = some (.int .u32 b.rt)
theorem FkAt.below {w w' : World} {B : Nat} {p : Addr} {b : Fk} (h : FkAt w p b) (hb : Below B w w') (hp : p.block < B) : FkAt w' p b :=
 ⟨(hb.cell (p := p) hp).trans h.1, (hb.cell (p := ⟨p.block, p.off + 1, none⟩) hp).trans h.2⟩
theorem fk_at {w : World} {B n i : Nat} {A : Option Addr} {l : List Fk} (h : Reads w B 2 A n (fkc l)) (hi : i < n) :
  ∃ ad x, A = some ad ∧ ad.block < B ∧ (ad.add (i * 2)).block < B ∧ l[i]? = some x ∧ FkAt w (ad.add (i * 2)) x := by
 obtain ⟨ad, x, hA, hb, hx, hc⟩ := row_at (fun b => Fk.cells_len b) (by decide) h hi
 exact ⟨ad, x, hA, hb, by rw [block_add]; exact hb, hx, cells2 hc⟩
theorem fk_len {w : World} {B n : Nat} {A : Option Addr} {l : List Fk} (h : Reads w B 2 A n (fkc l)) : l.length = n := rows_len (fun b => Fk.cells_len b) (by decide) h
theorem fk_take {w : World} {B n m : Nat} {A : Option Addr} {l : List Fk} (h : Reads w B 2 A n (fkc l)) (hm : m ≤ n) : Reads w B 2 A m (fkc (l.take m)) := rows_take (fun b => Fk.cells_len b) h hm
theorem fk_drop {w : World} {B n m cap : Nat} {A : Option Addr} {l : List Fk} (h : Reads w B 2 A n (fkc l)) (hm : m ≤ n) (hc : n ≤ cap) : Reads w B 2 (if cap = m then A else A.map (·.add (m * 2))) (n - m) (fkc (l.drop m)) := rows_drop (fun b => Fk.cells_len b) h hm hc
theorem fkc_append (l m : List Fk) : fkc (l ++ m) = fkc l ++ fkc m := rowsOf_append l m

end Go.Proofs.Ytgnpldlgdapehaa

namespace Go.Proofs.Ytgnpldlgdapehaa
open Go.RowKit Go.Lib

theorem below_setRow {B : Nat} {a w : World} (h : Below B a w) {g : Nat} (hg : B ≤ g) (cs : Array Value) : Below B a (w.setRow g cs) :=
 ⟨h.os, h.tape, h.output, by rw [setRow_size]; exact h.size, fun k hk => (setRow_other _ _ _ _ (by omega)).trans (h.block k hk)⟩
end Go.Proofs.Ytgnpldlgdapehaa

namespace Go.Proofs.Ytgnpldlgdapehaa
open Go.RowKit
open Go.Lib

def goodSize (n : Int) : Bool := decide (128 ≤ n) && decide (n ≤ 4096) && n % 64 == 0
theorem dgood_any (n : Int) (w : World) :
  Calls Try.prog 39 #[.int .i64 n] w fun e w' => e = .returned (.bool (goodSize n)) ∧ w = w' := by
 by_cases h1 : 128 ≤ n
 ·by_cases h2 : n ≤ 4096
  ·have h0 : 0 ≤ n := by omega
   by_cases h3 : n % 64 = 0
   ·have h4 : (n % 64 == 0) = true := by simpa using h3
    have HG := Lib.hid (show goodSize n = true by simp [goodSize, h1, h2, h3])
    clear h3
    go_enter Try.func39, Try.ntmps39
    go_wp2
    go_ret
    exact ⟨by rw [HG.out]; rfl, rfl⟩
   ·have h4 : (n % 64 == 0) = false := by simpa using h3
    have HG := Lib.hid (show goodSize n = false by simp [goodSize, h1, h2, h4])
    clear h3
    go_enter Try.func39, Try.ntmps39
    go_wp2
    go_ret
    exact ⟨by rw [HG.out]; rfl, rfl⟩
  ·have HG := Lib.hid (show goodSize n = false by simp [goodSize, h2])
   go_enter Try.func39, Try.ntmps39
   go_wp2
   go_ret
   exact ⟨by rw [HG.out]; rfl, rfl⟩
 ·have HG := Lib.hid (show goodSize n = false by simp [goodSize, h1])
  go_enter Try.func39, Try.ntmps39
  go_wp2
  go_ret
  exact ⟨by rw [HG.out]; rfl, rfl⟩

theorem good_pos {size : Nat} (h : goodSize size = true) : 128 ≤ size ∧ size ≤ 4096 := by
 simp [goodSize] at h
 omega
end Go.Proofs.Ytgnpldlgdapehaa

namespace Go.Proofs.Ytgnpldlgdapehaa
open Go.RowKit

structure Bk where
 nm : ByteArray
 rt : Nat
 ks : Int
def eqI (l : List Bk) (nm : ByteArray) : Nat := l.findIdx fun b => b.nm.toList == nm.toList
end Go.Proofs.Ytgnpldlgdapehaa

namespace Go.Proofs.Ytgnpldlgdapehaa
open Go.RowKit
open Go.Lib hiding intOf
attribute [local go_sem ↓] Go.wp_at_zero Go.wp_at_succ

end Go.Proofs.Ytgnpldlgdapehaa

namespace Go.Proofs.Ytgnpldlgdapehaa
open Go.RowKit
open Go.Lib
attribute [local go_sem ↓] Go.wp_at_zero Go.wp_at_succ

theorem wpAnyH_takeL {P : Program} {md : Region.Mode} {l : List Oper} {Q : Exit → Act → World → Prop} {S : World → Prop} {i : Nat} {oi : Oper} {v : Value} {fuel : Nat} {listed : Array Bool} {a : Act} {w : World} (hi : l[i]? = some oi)
  (hs : Region.noSelect l.toArray = true) (hf : Region.free md l.toArray listed i = true) (hr : (Region.ready md l.toArray listed).contains i = true)
  (hQ : ∀ c a w, Q (.panic c) (a.put oi.dst v) w → Q (.panic c) a w) (hy : YieldsIf P l.toArray S oi v a) (hS : S w)
  (h : wpAnyH P md l.toArray Q S fuel (listed.setIfInBounds i true) (a.put oi.dst v) w) : wpAnyH P md l.toArray Q S (fuel + 1) listed a w :=
 wpAnyH_take (by simpa using hi) hs hf hr hQ hy hS h
theorem AllReadyH.consL {P : Program} {md : Region.Mode} {l : List Oper} {Q : Exit → Act → World → Prop} {S : World → Prop} {fuel : Nat} {listed : Array Bool} {a : Act} {w : World} {i : Nat} {o : Oper} {rs : List Nat} (ho : l[i]? = some o)
  (h : ∀ K' : Act → World → Prop, Shut (∀ a w, S w → (S w → wpAnyH P md l.toArray Q S fuel (listed.setIfInBounds i true) a w) → K' a w) → if Region.wanted o (yielded l.toArray a.tmps) = true then Oper.wp P o a w K' Q else K' (a.put o.dst undef) w)
  (hs : AllReadyH P md l.toArray Q S fuel listed a w rs) : AllReadyH P md l.toArray Q S fuel listed a w (i :: rs) :=
 AllReadyH.cons (by simpa using ho) h hs

theorem tkL {P : Program} {md : Region.Mode} {l : List Oper} {Q : Exit → Act → World → Prop} {S : World → Prop} {i : Nat} {oi : Oper} {v : Value} {fuel : Nat} {listed : Array Bool} {a : Act} {w : World}
    (hy : ∀ w', S w' → (execOp a.eval oi).run P w' = .ok (.value v) w') (hS : S w) (h : wpAnyH P md l.toArray Q S fuel (listed.setIfInBounds i true) (a.put oi.dst v) w)
    (hi : l[i]? = some oi := by rfl) (hs : Region.noSelect l.toArray = true := by kernel_rfl) (hf : Region.free md l.toArray listed i = true := by kernel_rfl) (hr : (Region.ready md l.toArray listed).contains i = true := by kernel_rfl)
    (hQ : ∀ c a w, Q (.panic c) (a.put oi.dst v) w → Q (.panic c) a w := by exact fun _ _ _ h => h) (hw : Region.wanted oi (yielded l.toArray a.tmps) = true := by rfl) : wpAnyH P md l.toArray Q S (fuel + 1) listed a w :=
  wpAnyH_takeL hi hs hf hr hQ (.inl ⟨hw, hy⟩) hS h
theorem tkA {P : Program} {md : Region.Mode} {l : List Oper} {Q : Exit → Act → World → Prop} {S : World → Prop} {i : Nat} {oi : Oper} {v : Value} {fuel : Nat} {listed : Array Bool} {a : Act} {w : World}
    (h : wpAnyH P md l.toArray Q S fuel (listed.setIfInBounds i true) (a.put oi.dst v) w)
    (hi : l[i]? = some oi := by rfl) (hy : ∀ w', S w' → (execOp a.eval oi).run P w' = .ok (.value v) w' := by (intro wz hSz; (try dsimp only at hSz); go_simp; (try with_reducible rfl))) (hS : S w := by first | exact hHeld | trivial | assumption)
    (hs : Region.noSelect l.toArray = true := by kernel_rfl) (hf : Region.free md l.toArray listed i = true := by kernel_rfl) (hr : (Region.ready md l.toArray listed).contains i = true := by kernel_rfl)
    (hQ : ∀ c a w, Q (.panic c) (a.put oi.dst v) w → Q (.panic c) a w := by exact fun _ _ _ h => h) (hw : Region.wanted oi (yielded l.toArray a.tmps) = true := by rfl) : wpAnyH P md l.toArray Q S (fuel + 1) listed a w :=
  wpAnyH_takeL hi hs hf hr hQ (.inl ⟨hw, hy⟩) hS h
theorem tkU {P : Program} {md : Region.Mode} {l : List Oper} {Q : Exit → Act → World → Prop} {S : World → Prop} {i : Nat} {oi : Oper} {fuel : Nat} {listed : Array Bool} {a : Act} {w : World}
    (h : wpAnyH P md l.toArray Q S fuel (listed.setIfInBounds i true) (a.put oi.dst undef) w)
    (hi : l[i]? = some oi := by rfl) (hS : S w := by first | exact hHeld | trivial | assumption)
    (hs : Region.noSelect l.toArray = true := by kernel_rfl) (hf : Region.free md l.toArray listed i = true := by kernel_rfl) (hr : (Region.ready md l.toArray listed).contains i = true := by kernel_rfl)
    (hQ : ∀ c a w, Q (.panic c) (a.put oi.dst undef) w → Q (.panic c) a w := by exact fun _ _ _ h => h) (hw : Region.wanted oi (yielded l.toArray a.tmps) = false := by rfl) : wpAnyH P md l.toArray Q S (fuel + 1) listed a w :=
  wpAnyH_takeL hi hs hf hr hQ (.inr ⟨hw, rfl⟩) hS h
theorem tkC {P : Program} {md : Region.Mode} {l : List Oper} {Q : Exit → Act → World → Prop} {S : World → Prop} {fuel : Nat} {listed : Array Bool} {a : Act} {w : World} {i : Nat} {o : Oper}
    (h : ∀ K' : Act → World → Prop, Shut (∀ a w, S w → (S w → wpAnyH P md l.toArray Q S fuel (listed.setIfInBounds i true) a w) → K' a w) → if Region.wanted o (yielded l.toArray a.tmps) = true then Oper.wp P o a w K' Q else K' (a.put o.dst undef) w) (ho : l[i]? = some o := by rfl) : AllReadyH P md l.toArray Q S fuel listed a w [i] :=
  AllReadyH.consL ho h AllReadyH.nil
theorem tkP : (∀ (t : Array Value) (ds : List Deferred) (d : Tmp) (v : Value), Act.put ⟨t, ds⟩ (some d) v = ⟨t.setIfInBounds d v, ds⟩) ∧ (∀ (a : Act) (v : Value), Act.put a none v = a) ∧ (∀ (l : List Value) (i : Nat) (v : Value), l.toArray.setIfInBounds i v = (l.set i v).toArray) ∧ (∀ (a b : Value) (l : List Value), (a :: l).set 0 b = b :: l) ∧ (∀ (a b : Value) (l : List Value) (i : Nat), (a :: l).set (i + 1) b = a :: l.set i b) :=
  ⟨fun _ _ _ _ => rfl, fun _ _ => rfl, fun l i v => by simp, fun _ _ _ => rfl, fun _ _ _ _ => rfl⟩
end Go.Proofs.Ytgnpldlgdapehaa

namespace Go.Proofs.Ytgnpldlgdapehaa
open Go.RowKit

structure KeepsU (U : Nat → Prop) (W W' : World) : Prop where
 os : W'.os = W.os
 tape : W'.tape = W.tape
 output : W'.output = W.output
 size : W.heap.size ≤ W'.heap.size
 block : ∀ k, k < W.heap.size → U k → W'.heap[k]? = W.heap[k]?
theorem KeepsU.mono {U V : Nat → Prop} {A B : World} (h : KeepsU U A B) (hv : ∀ k, V k → U k) : KeepsU V A B := ⟨h.os, h.tape, h.output, h.size, fun i hi hu => h.block i hi (hv i hu)⟩
theorem KeepsU.of_grown {U : Nat → Prop} {A B : World} {row : Option Nat} (h : A.grownBy B row) (hr : ∀ k, row = some k → ¬ U k) : KeepsU U A B := ⟨h.os, h.tape, h.output, h.size, fun i hi hu => h.block i hi fun e => hr i e.symm hu⟩
theorem KeepsU.of_below {U : Nat → Prop} {A B : World} (h : Below A.heap.size A B) : KeepsU U A B := ⟨h.os, h.tape, h.output, h.size, fun i hi _ => h.block i hi⟩
theorem KeepsU.alloc (U : Nat → Prop) (A : World) (o : Obj) : KeepsU U A (A.alloc o) := KeepsU.of_below ((Below.refl _ _).alloc (Nat.le_refl _) o)
def StabU {β : Type} (J : β → (Nat → Prop) → World → Prop) : Prop := ∀ s U W W', J s U W → KeepsU U W W' → J s U W'
def LtU {β : Type} (J : β → (Nat → Prop) → World → Prop) : Prop := ∀ s U W, J s U W → ∀ k, U k → k < W.heap.size
def RoundU {β : Type} (J : β → (Nat → Prop) → World → Prop) (xs : β) (U : Nat → Prop) (W W' : World) : Prop := ∃ U' : Nat → Prop, (∀ k, U' k → U k ∨ W.heap.size ≤ k) ∧ Kept U W W' ∧ J xs U' W'
def AfterU {β : Type} (J Jx : β → (Nat → Prop) → World → Prop) (U : Nat → Prop) (W : World) (xs : β) (e : Ending) (W' : World) : Prop :=
 (e = .returned (.bool true) ∧ RoundU J xs U W W') ∨ (e = .returned (.bool false) ∧ RoundU Jx xs U W W')
def SeqU {α : Type} (P : Program) (g : Nat) (lb : Array Value) (encs : α → Array Value) (XS : List α) (M : Nat → Prop) (w : World) : Prop :=
 ∀ (l n : Nat) (J Jx : List α → (Nat → Prop) → World → Prop) (U0 : Nat → Prop) (W : World), Below w.heap.size w W → StabU J → StabU Jx → LtU J → LtU Jx → (∀ k, M k → ¬ U0 k) →
  (∀ m pre x U W1, J pre U W1 → pre ++ [x] <+: XS → YieldAt Fence.wide m P l (encs x) W1 (AfterU J Jx U W1 (pre ++ [x]))) →
  J [] U0 W →
  CallsIn Fence.wide n P g (#[.func (.yield l) #[] #[]] ++ lb) W fun e W' => (∃ v, e = .returned v) ∧ ∃ U', (J XS U' W' ∨ ∃ pre, pre <+: XS ∧ Jx pre U' W')
def postU {β : Type} (I : β → (Nat → Prop) → World → Prop) (Ix : Code → β → (Nat → Prop) → World → Prop) (xs : β) (U : Nat → Prop) (W : World) : Exit → Act → World → Prop
 | .normal, _, W' => RoundU I xs U W W'
 | .ret, _, W' => RoundU (Ix .ret) xs U W W'
 | .exit id, _, W' => RoundU (Ix (.exit id)) xs U W W'
 | .goto t, _, W' => RoundU (Ix (.goto t)) xs U W W'
 | .panic _, _, _ => False
 | .outgrown, _, _ => False
theorem keepsU_put {U : Nat → Prop} (W : World) {l : Nat} (o : Obj) (hl : ¬ U l) : KeepsU U W (W.putObj l o) := KeepsU.of_grown (grownBy_putObj' W l o) (fun k e => by cases e; exact hl)
theorem kept_put {U : Nat → Prop} (W : World) {l : Nat} (o : Obj) (hl : U l) : Kept U W (W.putObj l o) := Kept.of_grown (grownBy_putObj' W l o) (fun k e => by cases e; exact hl)
theorem wpIn_rangeFunc_U {α : Type} {P : Program} {g : Operand} {ps : Array Tmp} {assign body : Code} {Q : Exit → Act → World → Prop} {a : Act} {w : World} {n : Nat}
  {gf : Nat} {lb : Array Value} (hg : a.eval g = .func (.func gf) #[] lb) (eg : ∀ args w, (callFunc gf args).run P w = .ok (.enter gf args) w)
  {encs : α → Array Value} {XS : List α} {M : Nat → Prop} {w0 : World} (hseq : SeqU P gf lb encs XS M w0) (hb0 : Below w0.heap.size w0 w) (hM : ∀ k, M k → k < w.heap.size) (hps : ∀ x, (encs x).size = ps.size)
  (I : List α → (Nat → Prop) → World → Prop) (Ix : Code → List α → (Nat → Prop) → World → Prop) (A : List α → α → Act → (Nat → Prop) → World → Prop)
  (hI : StabU I) (hIx : ∀ c, StabU (Ix c)) (hA : ∀ pre x a', StabU (fun (_ : Unit) => A pre x a')) (lI : LtU I) (lIx : ∀ c, LtU (Ix c))
  (U0 : Nat → Prop) (hMU : ∀ k, M k → ¬ U0 k) (h0 : I [] U0 w)
  (hassign : ∀ (m l : Nat) (pre : List α) (x : α) (U : Nat → Prop) (W : World) (K : Act → World → Prop), I pre U W → pre ++ [x] <+: XS →
   (∀ (a' : Act) (U' : Nat → Prop) (W' : World), (∀ k, U' k → U k ∨ W.heap.size ≤ k) → Kept U W W' → A pre x a' U' W' → K a' W') →
   assign.wpIn (Fence.wide.inRound l) m P (Exit.then K (fun _ _ _ => False)) { tmps := (ps.zip (encs x)).foldl (fun t (p, v) => t.setIfInBounds p v) a.tmps, defers := [] } W)
  (hbody : ∀ (m l : Nat) (pre : List α) (x : α) (a' : Act) (U : Nat → Prop) (W : World), A pre x a' U W → pre ++ [x] <+: XS → body.wpIn (Fence.wide.inRound l) m P (postU I Ix (pre ++ [x]) U W) a' W)
  (hdone : ∀ (D : Nat) (U : Nat → Prop) (W : World), w.heap.size ≤ D → ¬ U D → I XS U W → W.heap[D]? = some (.deferred (some [])) → Q .normal { a with defers := { target := .collected D, args := #[] } :: a.defers } W)
  (hstop : ∀ (D : Nat) (c : Code) (pre : List α) (U : Nat → Prop) (W : World), w.heap.size ≤ D → ¬ U D → pre <+: XS → Ix c pre U W → W.heap[D]? = some (.deferred (some [])) → c.wpIn Fence.wide n P Q { a with defers := { target := .collected D, args := #[] } :: a.defers } W) :
  (Code.rangeFunc g ps assign body).wpIn Fence.wide n P Q a w := by
 refine wpIn_rangeFunc ?_
 intro fn hfn
 obtain ⟨rec, hrec⟩ : ∃ rec : LoopState → Option Code → Loop, rec = fun st pe => { state := st, pending := pe, fn, tmps := a.tmps, params := ps, assign, body, defers := w.heap.size } := ⟨_, rfl⟩
 obtain ⟨W1, hW1⟩ : ∃ W1, (w.alloc (.deferred (some []))).alloc (.loop (rec .ready none)) = W1 := ⟨_, rfl⟩
 have hL1 : W1.heap[w.heap.size + 1]? = some (.loop (rec .ready none)) := by
  rw [← hW1]; have := World.alloc_heap_new (w.alloc (.deferred (some []))) (.loop (rec .ready none)); rwa [World.size_alloc] at this
 have hK1 : W1.heap[w.heap.size]? = some (.deferred (some [])) := by
  rw [← hW1]; exact (Below.heap_alloc _ _ _ (by simp)).trans (World.alloc_heap_new w _)
 have hI1 : I [] U0 W1 := by rw [← hW1]; exact hI _ _ _ _ (hI _ _ _ _ h0 (KeepsU.alloc _ _ _)) (KeepsU.alloc _ _ _)
 have hb1 : Below w0.heap.size w0 W1 := by
  rw [← hW1]; exact hb0.trans ((((Below.refl _ w).alloc (Nat.le_refl _) _).alloc (by simp) _).mono hb0.size)
 obtain ⟨D, hD⟩ : ∃ D, D = w.heap.size := ⟨_, rfl⟩
 refine ⟨w.heap.size + 1, [{ target := .collected w.heap.size, args := #[] }], W1, { target := .fn (.func gf) lb, args := #[.func (.yield (w.heap.size + 1)) #[] #[]] }, W1, gf,
  #[.func (.yield (w.heap.size + 1)) #[] #[]] ++ lb, W1, ?_, ?_, ?_, ?_, fun h => by simp [Fence.wide] at h, ?_⟩
 ·rw [← hW1, hrec]; exact run_enterLoop_outer _ _ _ _ _
 ·simp only [resolve, hg]
  simp [go_sem]
 ·intro f' _; trivial
 ·simp [invoke, go_sem, eg]
 ·rw [← hD] at hL1 hK1 ⊢
  have hU0D : ∀ k, U0 k → k < D := fun k hk => hD ▸ lI _ _ _ h0 k hk
  have hext : ∀ {J : List α → (Nat → Prop) → World → Prop} (st : LoopState) (pe : Option Code → Prop), StabU J → StabU (fun (pre : List α) (U : Nat → Prop) (W : World) => ∃ (V : Nat → Prop) (c : Option Code), pe c ∧ (∀ k, U k ↔ V k ∨ k = D ∨ k = D + 1) ∧ ¬ V D ∧ ¬ V (D + 1) ∧ J pre V W ∧ W.heap[D + 1]? = some (.loop (rec st c)) ∧ W.heap[D]? = some (.deferred (some []))) :=
   fun st pe hs pre U W W' h hk => by
    obtain ⟨V, c, hc, hU, n1, n2, hj, hl, hd⟩ := h
    exact ⟨V, c, hc, hU, n1, n2, hs _ _ _ _ hj (hk.mono fun k hv => (hU k).2 (.inl hv)), (hk.block _ (Array.getElem?_eq_some_iff.1 hl).1 ((hU _).2 (.inr (.inr rfl)))).trans hl, (hk.block _ (Array.getElem?_eq_some_iff.1 hd).1 ((hU _).2 (.inr (.inl rfl)))).trans hd⟩
  have hlt : ∀ {J : List α → (Nat → Prop) → World → Prop} (st : LoopState) (pe : Option Code → Prop), LtU J → LtU (fun (pre : List α) (U : Nat → Prop) (W : World) => ∃ (V : Nat → Prop) (c : Option Code), pe c ∧ (∀ k, U k ↔ V k ∨ k = D ∨ k = D + 1) ∧ ¬ V D ∧ ¬ V (D + 1) ∧ J pre V W ∧ W.heap[D + 1]? = some (.loop (rec st c)) ∧ W.heap[D]? = some (.deferred (some []))) :=
   fun st pe hs pre U W h k hk => by
    obtain ⟨V, c, hc, hU, n1, n2, hj, hl, hd⟩ := h
    rcases (hU k).1 hk with h1 | rfl | rfl
    ·exact hs _ _ _ hj k h1
    ·exact (Array.getElem?_eq_some_iff.1 hd).1
    ·exact (Array.getElem?_eq_some_iff.1 hl).1
  have hIxS : StabU (fun (pre : List α) (V : Nat → Prop) (W : World) => True) := fun _ _ _ _ _ _ => trivial
  refine (hseq (D + 1) (n - 1)
   (fun pre U W => ∃ (V : Nat → Prop) (c : Option Code), c = none ∧ (∀ k, U k ↔ V k ∨ k = D ∨ k = D + 1) ∧ ¬ V D ∧ ¬ V (D + 1) ∧ I pre V W ∧ W.heap[D + 1]? = some (.loop (rec .ready c)) ∧ W.heap[D]? = some (.deferred (some [])))
   (fun pre U W => ∃ c0 : Code, ∃ (V : Nat → Prop) (c : Option Code), c = some c0 ∧ (∀ k, U k ↔ V k ∨ k = D ∨ k = D + 1) ∧ ¬ V D ∧ ¬ V (D + 1) ∧ Ix c0 pre V W ∧ W.heap[D + 1]? = some (.loop (rec .done c)) ∧ W.heap[D]? = some (.deferred (some [])))
   (fun k => U0 k ∨ k = D ∨ k = D + 1) W1 hb1 (hext .ready (fun c => c = none) hI) (fun pre U W W' ⟨c0, h⟩ hk => ⟨c0, hext .done (fun c => c = some c0) (hIx c0) pre U W W' h hk⟩) (hlt .ready (fun c => c = none) lI) (fun pre U W ⟨c0, h⟩ => hlt .done (fun c => c = some c0) (lIx c0) pre U W h)
   (fun k hk h => by
    have h1 := hM k hk
    rcases h with h | h | h
    ·exact hMU k hk h
    ·omega
    ·omega)
   ?_ ⟨U0, none, rfl, fun _ => Iff.rfl, fun h => by have := hU0D _ h; omega, fun h => by have := hU0D _ h; omega, hI1, hL1, hK1⟩).mono ?_
  ·-- one round
   rintro m pre x U W ⟨V, c, rfl, hU, n1, n2, hi, hl, hk⟩ hpre
   have hlW : D + 1 < W.heap.size := (Array.getElem?_eq_some_iff.1 hl).1
   have hy := run_yield (P := P) (args := encs x) hl (by rw [hrec]; exact hps x)
   rw [hrec] at hy
   refine ⟨fn, _, assign, body, hy, roundIn_of_wpIn trivial (hassign m _ pre x V W _ hi hpre ?_)⟩
   clear hy
   intro a' V1 Wa hV1 hka hAx
   have hsa := hka.size
   have hla : Wa.heap[D + 1]? = some (.loop (rec .ready none)) := (hka.block _ hlW n2).trans hl
   have hda : Wa.heap[D]? = some (.deferred (some [])) := (hka.block _ (by omega) n1).trans hk
   have m1 : ¬ V1 D := fun h => by rcases hV1 _ h with h1 | h1; exact n1 h1; omega
   have m2 : ¬ V1 (D + 1) := fun h => by rcases hV1 _ h with h1 | h1; exact n2 h1; omega
   refine ⟨_, run_beginRound hla (by rw [hrec]), ?_⟩
   obtain ⟨Wb, hWb⟩ : ∃ Wb, Wb = Wa.putObj (D + 1) (.loop { rec .ready none with state := .busy }) := ⟨_, rfl⟩
   rw [← hWb]
   have hAb : A pre x a' V1 Wb := by rw [hWb]; exact hA pre x a' () V1 _ _ hAx (keepsU_put _ _ m2)
   have hlb : Wb.heap[D + 1]? = some (.loop { rec .ready none with state := .busy }) := by rw [hWb]; exact World.putObj_heap_same (by omega)
   have hdb : Wb.heap[D]? = some (.deferred (some [])) := by rw [hWb]; exact (World.putObj_heap_other (by omega)).trans hda
   have hkb : Kept U W Wb := by rw [hWb]; exact (hka.mono fun k h => (hU k).2 (.inl h)).trans (kept_put _ _ ((hU _).2 (.inr (.inr rfl))))
   have hsb : W.heap.size ≤ Wb.heap.size := hkb.size
   refine wpIn_mono (hbody m _ pre x a' V1 Wb hAb hpre) ?_
   have fin : ∀ {J : List α → (Nat → Prop) → World → Prop} (hs : StabU J) (jump : Option Code) (W3 : World), RoundU J (pre ++ [x]) V1 Wb W3 →
     (Instr.endRound (D + 1) jump).run P W3 = .ok (.bool jump.isNone) (W3.putObj (D + 1) (.loop (rec (if jump.isNone then .ready else .done) jump))) ∧
     ∃ U' : Nat → Prop, (∀ k, U' k → U k ∨ W.heap.size ≤ k) ∧ Kept U W (W3.putObj (D + 1) (.loop (rec (if jump.isNone then .ready else .done) jump))) ∧
     ∃ V' : Nat → Prop, (∀ k, U' k ↔ V' k ∨ k = D ∨ k = D + 1) ∧ ¬ V' D ∧ ¬ V' (D + 1) ∧ J (pre ++ [x]) V' (W3.putObj (D + 1) (.loop (rec (if jump.isNone then .ready else .done) jump))) ∧
     (W3.putObj (D + 1) (.loop (rec (if jump.isNone then .ready else .done) jump))).heap[D + 1]? = some (.loop (rec (if jump.isNone then .ready else .done) jump)) ∧
     (W3.putObj (D + 1) (.loop (rec (if jump.isNone then .ready else .done) jump))).heap[D]? = some (.deferred (some [])) := fun {J} hs jump W3 hp => by
    obtain ⟨V2, hV2, hk3, hj3⟩ := hp
    have hs3 := hk3.size
    have hl3 : W3.heap[D + 1]? = some (.loop { rec .ready none with state := .busy }) := (hk3.block _ (by omega) m2).trans hlb
    have hd3 : W3.heap[D]? = some (.deferred (some [])) := (hk3.block _ (by omega) m1).trans hdb
    have p1 : ¬ V2 D := fun h => by rcases hV2 _ h with h1 | h1; exact m1 h1; omega
    have p2 : ¬ V2 (D + 1) := fun h => by rcases hV2 _ h with h1 | h1; exact m2 h1; omega
    have he := run_endRound (P := P) jump hl3
    rw [hrec] at he ⊢
    refine ⟨he, fun k => V2 k ∨ k = D ∨ k = D + 1, ?_, ?_, V2, fun _ => Iff.rfl, p1, p2, hs _ _ _ _ hj3 (keepsU_put _ _ p2), World.putObj_heap_same (by omega), (World.putObj_heap_other (by omega)).trans hd3⟩
    ·rintro k (h | rfl | rfl)
     ·rcases hV2 k h with h1 | h1
      ·rcases hV1 k h1 with h2 | h2
       ·exact .inl ((hU k).2 (.inl h2))
       ·exact .inr h2
      ·right; omega
     ·exact .inl ((hU _).2 (.inr (.inl rfl)))
     ·exact .inl ((hU _).2 (.inr (.inr rfl)))
    ·refine (hkb.then hk3 fun k h => ?_).trans (kept_put _ _ ((hU _).2 (.inr (.inr rfl))))
     rcases hV1 k h with h1 | h1
     ·exact .inl ((hU k).2 (.inl h1))
     ·exact .inr h1
   rintro e a3 W3 hp
   cases e with
   | normal =>
    obtain ⟨hr, U', hU', hkp, V', q1, q2, q3, q4, q5, q6⟩ := fin hI none W3 hp
    exact ⟨_, _, hr, .inl ⟨rfl, U', hU', hkp, V', none, rfl, q1, q2, q3, q4, q5, q6⟩⟩
   | ret =>
    obtain ⟨hr, U', hU', hkp, V', q1, q2, q3, q4, q5, q6⟩ := fin (hIx _) (some .ret) W3 hp
    exact ⟨_, _, hr, .inr ⟨rfl, U', hU', hkp, .ret, V', _, rfl, q1, q2, q3, q4, q5, q6⟩⟩
   | exit id =>
    obtain ⟨hr, U', hU', hkp, V', q1, q2, q3, q4, q5, q6⟩ := fin (hIx _) (some (.exit id)) W3 hp
    exact ⟨_, _, hr, .inr ⟨rfl, U', hU', hkp, .exit id, V', _, rfl, q1, q2, q3, q4, q5, q6⟩⟩
   | goto t =>
    obtain ⟨hr, U', hU', hkp, V', q1, q2, q3, q4, q5, q6⟩ := fin (hIx _) (some (.goto t)) W3 hp
    exact ⟨_, _, hr, .inr ⟨rfl, U', hU', hkp, .goto t, V', _, rfl, q1, q2, q3, q4, q5, q6⟩⟩
   | panic ch => exact hp.elim
   | outgrown => exact hp.elim
  ·-- behind the iterator
   rintro e W2 ⟨⟨v, rfl⟩, U', (⟨V, c, rfl, hU, n1, n2, hi, hl, hk⟩ | ⟨pre, hpre, c0, V, c, rfl, hU, n1, n2, hi, hl, hk⟩)⟩
   ·exact ⟨none, _, by have := run_endLoop (P := P) hl (by rw [hrec]; simp); rw [hrec] at this; exact this, hdone _ V _ (by omega) n1 (hI _ _ _ _ hi (keepsU_put _ _ n2)) ((World.putObj_heap_other (by omega)).trans hk)⟩
   ·exact ⟨some c0, _, by have := run_endLoop (P := P) hl (by rw [hrec]; simp); rw [hrec] at this; exact this, hstop _ c0 pre V _ (by omega) n1 hpre (hIx c0 _ _ _ _ hi (keepsU_put _ _ n2)) ((World.putObj_heap_other (by omega)).trans hk)⟩
end Go.Proofs.Ytgnpldlgdapehaa

namespace Go.Proofs.Ytgnpldlgdapehaa
open Go.RowKit

def Greedy {α : Type} (sz : List α → Nat) (room : Nat) : List (List α) → Prop
 | [] => True
 | p :: t => p ≠ [] ∧ sz p ≤ room ∧ (∀ q s x r, t = q :: s → q = x :: r → room < sz (p ++ [x])) ∧ Greedy sz room t
section
variable {α : Type} {sz : List α → Nat} {room : Nat}
theorem Greedy.ne : ∀ {P : List (List α)}, Greedy sz room P → ∀ p ∈ P, p ≠ []
 | [], _, p, hp => by simp at hp
 | q :: t, h, p, hp => by
  rcases List.mem_cons.1 hp with rfl | hp
  ·exact h.1
  ·exact Greedy.ne h.2.2.2 p hp
theorem Greedy.fits : ∀ {P : List (List α)}, Greedy sz room P → ∀ p ∈ P, sz p ≤ room
 | [], _, p, hp => by simp at hp
 | q :: t, h, p, hp => by
  rcases List.mem_cons.1 hp with rfl | hp
  ·exact h.2.1
  ·exact Greedy.fits h.2.2.2 p hp
theorem Greedy.new {s : List α} {x : α} (hx : sz [x] ≤ room) (hs : room < sz (s ++ [x])) : ∀ {P : List (List α)}, Greedy sz room (P ++ [s]) → Greedy sz room (P ++ [s, [x]])
 | [], h => ⟨h.1, h.2.1, fun q s2 y r e1 e2 => by injection e1 with e1 e3; rw [← e1] at e2; injection e2 with e2 e4; rw [← e2]; exact hs, ⟨by simp, hx, fun q s2 y r e1 _ => by simp at e1, trivial⟩⟩
 | [p], h => ⟨h.1, h.2.1, fun q s2 y r e1 e2 => by injection e1 with e1 e3; exact h.2.2.1 q [] y r (by rw [e1]; rfl) e2, Greedy.new hx hs (P := []) h.2.2.2⟩
 | p :: p2 :: P, h => ⟨h.1, h.2.1, fun q s2 y r e1 e2 => by injection e1 with e1 e3; exact h.2.2.1 q (P ++ [s]) y r (by rw [e1]; rfl) e2, Greedy.new hx hs (P := p2 :: P) h.2.2.2⟩
theorem Greedy.old {s : List α} {x : α} (hs : sz (s ++ [x]) ≤ room) (h0 : s ≠ []) : ∀ {P : List (List α)}, Greedy sz room (P ++ [s]) → Greedy sz room (P ++ [s ++ [x]])
 | [], h => ⟨by simp, hs, fun q s2 y r e1 _ => by simp at e1, trivial⟩
 | [p], h => ⟨h.1, h.2.1, fun q s2 y r e1 e2 => by
   cases s with
   | nil => exact absurd rfl h0
   | cons z s =>
    injection e1 with e1 e3
    rw [e2] at e1
    injection e1 with e1 e4
    rw [← e1]
    exact h.2.2.1 (z :: s) [] z s rfl rfl, Greedy.old hs h0 (P := []) h.2.2.2⟩
 | p :: p2 :: P, h => ⟨h.1, h.2.1, fun q s2 y r e1 e2 => by injection e1 with e1 e3; exact h.2.2.1 q (P ++ [s]) y r (by rw [e1]; rfl) e2, Greedy.old hs h0 (P := p2 :: P) h.2.2.2⟩
theorem seg_snoc {l : List α} {s k : Nat} {x : α} (hs : s ≤ k) (hx : l[k]? = some x) : (l.drop s).take (k + 1 - s) = (l.drop s).take (k - s) ++ [x] := by
 rw [show k + 1 - s = (k - s) + 1 by omega, List.take_add_one, List.getElem?_drop, show s + (k - s) = k by omega, hx]
 rfl
theorem cutAt_greedy {one : α → Nat} (h0 : sz [] = 0) (h1 : ∀ a x, sz (a ++ [x]) = sz a + one x) {l : List α} : ∀ {k : Nat} {E : List Nat} {left : Int}, k ≤ l.length → cutAt (l.map fun x => ((one x : Nat) : Int)) room k = some (E, left) →
  (k = 0 ∧ E = [] ∧ left = room) ∨ ∃ P s, partsBy l 0 E = P ∧ s = (l.drop (E.getLast?.getD 0)).take (k - E.getLast?.getD 0) ∧ E.getLast?.getD 0 ≤ k ∧ s ≠ [] ∧ Greedy sz room (P ++ [s]) ∧ (P ++ [s]).flatten = l.take k ∧ left = (room : Int) - sz s
 | 0, E, left, _, h => by
  injection h with h
  injection h with e1 e2
  exact .inl ⟨rfl, e1.symm, e2.symm⟩
 | k + 1, E, left, hk, h => by
  right
  cases hs : cutAt (l.map fun x => ((one x : Nat) : Int)) room k with
  | none => rw [cutAt_none hs 1] at h; cases h
  | some t =>
   obtain ⟨E0, left0⟩ := t
   obtain ⟨x, hx⟩ : ∃ x, l[k]? = some x := ⟨l[k], List.getElem?_eq_getElem (by omega)⟩
   have hg : (l.map fun x => ((one x : Nat) : Int)).getD k 0 = one x := by
    rw [List.getD_eq_getElem?_getD, List.getElem?_map, hx]; rfl
   have hsx : sz [x] = one x := by have := h1 [] x; rw [h0] at this; simpa using this
   by_cases hb : (l.map fun x => ((one x : Nat) : Int)).getD k 0 < 0 ∨ (room : Int) < (l.map fun x => ((one x : Nat) : Int)).getD k 0
   ·rw [cutAt_bad hs hb] at h; cases h
   ·rcases cutAt_greedy h0 h1 (by omega) hs with ⟨rfl, rfl, rfl⟩ | ⟨P, s, hP, hsg, hlast, hne, hgr, hfl, hleft⟩
    ·rw [cutAt_old hs hb (by omega)] at h
     injection h with h
     injection h with e1 e2
     subst e1 e2
     have htk : l.take 1 = [x] := by
      obtain ⟨h3, rfl⟩ := List.getElem?_eq_some_iff.1 hx
      cases l with
      | nil => simp at hk
      | cons y t => simp
     refine ⟨[], [x], rfl, by simpa using htk.symm, by simp, by simp, ⟨by simp, by rw [hsx]; omega, fun q s y r e1 _ => by simp at e1, trivial⟩, by simpa using htk.symm, by rw [hg, hsx]⟩
    ·by_cases h2 : left0 < (l.map fun x => ((one x : Nat) : Int)).getD k 0
     ·rw [cutAt_new hs hb h2] at h
      injection h with h
      injection h with e1 e2
      subst e1 e2
      have hl2 : (E0 ++ [k]).getLast?.getD 0 = k := by simp
      have hb2 : room < sz (s ++ [x]) := by rw [h1]; omega
      have htk : (l.drop k).take (k + 1 - k) = [x] := by
       have := seg_snoc (Nat.le_refl k) hx
       rw [this, Nat.sub_self]
       simp
      refine ⟨partsBy l 0 (E0 ++ [k]), [x], rfl, by rw [hl2, htk], by rw [hl2]; omega, by simp, ?_, ?_, by rw [hg, hsx]⟩
      ·rw [partsBy_append, hP]
       show Greedy sz room (P ++ [(l.drop (E0.getLast?.getD 0)).take (k - E0.getLast?.getD 0)] ++ [[x]])
       rw [← hsg, List.append_assoc]
       exact hgr.new (by rw [hsx]; omega) hb2
      ·rw [partsBy_append, hP]
       show (P ++ [(l.drop (E0.getLast?.getD 0)).take (k - E0.getLast?.getD 0)] ++ [[x]]).flatten = _
       rw [← hsg, List.flatten_append, hfl]
       obtain ⟨h3, rfl⟩ := List.getElem?_eq_some_iff.1 hx
       rw [List.take_succ_eq_append_getElem h3]
       simp
     ·rw [cutAt_old hs hb h2] at h
      injection h with h
      injection h with e1 e2
      subst e1 e2
      have h4 := h1 s x
      refine ⟨P, s ++ [x], hP, by rw [seg_snoc hlast hx, ← hsg], by omega, by simp, hgr.old (by rw [h4]; omega) hne, ?_, by rw [hg, h4]; omega⟩
      obtain ⟨h3, rfl⟩ := List.getElem?_eq_some_iff.1 hx
      rw [List.take_succ_eq_append_getElem h3, ← hfl]
      simp
theorem cutP_greedy {one : α → Nat} (h0 : sz [] = 0) (h1 : ∀ a x, sz (a ++ [x]) = sz a + one x) {l : List α} (hr : ∀ x ∈ l, one x ≤ room) : Greedy sz room (cutP (fun x => ((one x : Nat) : Int)) room l) ∧ (cutP (fun x => ((one x : Nat) : Int)) room l).flatten = l := by
 by_cases hl : l = []
 ·subst hl; exact ⟨trivial, rfl⟩
 ·obtain ⟨E, left, h⟩ := cutAt_is (l := l.map fun x => ((one x : Nat) : Int)) (room := room) (k := l.length) (fun j hj => by
   have hx : l[j]? = some l[j] := List.getElem?_eq_getElem hj
   have := hr _ (List.getElem_mem hj)
   rw [List.getD_eq_getElem?_getD, List.getElem?_map, hx]
   show (0 : Int) ≤ ((one l[j] : Nat) : Int) ∧ ((one l[j] : Nat) : Int) ≤ room
   omega)
  have hc := cutL_some (l := l.map fun x => ((one x : Nat) : Int)) (room := room) (E := E) (left := left) (by rw [List.length_map]; exact h) (by simpa using hl)
  rw [List.length_map] at hc
  have hpos : 0 < l.length := List.length_pos_iff.2 hl
  rcases cutAt_greedy h0 h1 (Nat.le_refl _) h with ⟨h2, _⟩ | ⟨P, s, hP, hsg, hlast, hne, hgr, hfl, hleft⟩
  ·omega
  ·have : cutP (fun x => ((one x : Nat) : Int)) room l = P ++ [s] := by
    unfold cutP
    rw [hc, partsBy_append, hP, hsg]
    rfl
   rw [this]
   exact ⟨hgr, by rw [hfl, List.take_length]⟩
end
end Go.Proofs.Ytgnpldlgdapehaa

namespace Go.Proofs.Ytgnpldlgdapehaa
open Go.RowKit
open Go.Lib

theorem six_at {w : World} {b : Nat} {t : TypeId} {z0 z1 z2 z3 z4 z5 a0 a1 a2 a3 a4 a5 : Value} (h : Blk w b t #[z0, z1, z2, z3, z4, z5]) : Blk ((((((w.setCell ⟨b, 0, none⟩ a0).setCell ⟨b, 1, none⟩ a1).setCell ⟨b, 2, none⟩ a2).setCell ⟨b, 3, none⟩ a3).setCell ⟨b, 4, none⟩ a4).setCell ⟨b, 5, none⟩ a5) b t #[a0, a1, a2, a3, a4, a5] :=
 (((((h.set_ 0 a0).set_ 1 a1).set_ 2 a2).set_ 3 a3).set_ 4 a4).set_ 5 a5
theorem six_below {w0 w : World} {B b : Nat} {a0 a1 a2 a3 a4 a5 : Value} (h : Below B w0 w) (hb : B ≤ b) : Below B w0 ((((((w.setCell ⟨b, 0, none⟩ a0).setCell ⟨b, 1, none⟩ a1).setCell ⟨b, 2, none⟩ a2).setCell ⟨b, 3, none⟩ a3).setCell ⟨b, 4, none⟩ a4).setCell ⟨b, 5, none⟩ a5) :=
 (((((h.setCell hb a0).setCell hb a1).setCell hb a2).setCell hb a3).setCell hb a4).setCell hb a5
theorem infoPg : (Try.prog.info? 65).map (fun i => (i.zero, i.size)) = some (some (.agg #[.int .i64 0, .int .i64 0, .int .u32 0, .int .u32 0, .int .u64 0, .string ByteArray.empty]), 6) := by kernel_rfl

theorem read_row {fn : Func} {p u : Tmp} {ty : TypeId} (h : fn.results = #[.cell p ty, .tmp u]) (tmps : Array Value) (P : Program) (w : World) (g : Nat) (cs : Array Value)
  (hp : tmps.getD p undef = .pointer (some ⟨g, 0, none⟩)) (hl : (loadVar ty ⟨g, 0, none⟩).run P w = .ok (.agg cs) w) :
  (results fn tmps).run P w = .ok (.tuple #[.agg cs, tmps.getD u undef]) w := by
 rw [results_cell_tmp h, hp]
 simp [asAddr, hl]
theorem load_page {w : World} {g : Nat} {a0 a1 a2 a3 a4 a5 : Value} (h : Blk w g 65 #[a0, a1, a2, a3, a4, a5]) : (loadVar 65 ⟨g, 0, none⟩).run Try.prog w = .ok (.agg #[a0, a1, a2, a3, a4, a5]) w := by
 obtain ⟨hz, hi⟩ := zero_of_info infoPg
 exact run_loadVar_row w g 65 65 #[a0, a1, a2, a3, a4, a5] (0, 0) _ h Try.underlying65 rfl hi

end Go.Proofs.Ytgnpldlgdapehaa

namespace Go.Proofs.Ytgnpldlgdapehaa
open Go.RowKit Go.ChangeShapes Go.WideShapes
open Go.Deep (open_slice choose_lt)

instance : Inhabited Bk := ⟨⟨⟨#[]⟩, 0, 0⟩⟩
theorem lit_i64' {z : Int} (h : (Lit.int .i64 z).wf = true) : -9223372036854775808 ≤ z ∧ z ≤ 9223372036854775807 := by
 simp [Lit.wf, IntKind.min, IntKind.max, IntKind.signed, IntKind.bits] at h
 omega
theorem lit_u32' {z : Int} (h : (Lit.int .u32 z).wf = true) : 0 ≤ z ∧ z ≤ 4294967295 := by
 simp [Lit.wf, IntKind.min, IntKind.max, IntKind.signed, IntKind.bits] at h
 omega
section
variable {H : Type} {enc : TypeId × Value → H} {w : World} {base : Nat} {spare : Nat → Bool} {held : Bool}
end
end Go.Proofs.Ytgnpldlgdapehaa

namespace Go.Proofs.Ytgnpldlgdapehaa
open Go.RowKit Go.ChangeShapes Go.WideShapes
open Go.Deep (open_slice choose_lt)
set_option maxRecDepth 100000

instance : Inhabited Fk := ⟨⟨⟨#[]⟩, 0⟩⟩
def FkOk (b : Fk) : Prop := b.nm.size ≤ maxLen ∧ b.rt < 4294967296
def Fks (w : World) (B : Nat) (A : Option Addr) (n c : Nat) (l : List Fk) : Prop := Reads w B 2 A n (fkc l) ∧ n ≤ c ∧ c ≤ maxLen ∧ n ≤ 5864062014805 ∧ ∀ b, b ∈ l → FkOk b ∧ b.nm.size ≤ 140737488351232
section
variable {H : Type} {enc : TypeId × Value → H} {w : World} {base : Nat} {spare : Nat → Bool} {held : Bool}
theorem open_fkw {fuel : Nat} {cs : Array Value} {x : DataW H × List MemPlace} (h : DataW.trod enc Try.prog w base spare held fuel 29 cs.toList = some x) (hz : cs.size = 2) :
  ∃ (nm : ByteArray) (rt : Nat), cs = #[.string nm, .int .u32 rt] ∧ FkOk ⟨nm, rt⟩ ∧ nm.size ∈ x.1.weights Try.prog 29 := by
 obtain ⟨cl, hcl⟩ : ∃ cl, cl = cs.toList := ⟨_, rfl⟩
 have hlen : cl.length = 2 := by rw [hcl, Array.length_toList]; exact hz
 have hce : cs = cl.toArray := by rw [hcl]
 rw [← hcl] at h
 obtain ⟨xs, k', hk, hxy, _, hxl, hf⟩ := DataW.trod_struct Try.underlying29 h
 match xs, hxl, cl, hlen with
 | [y0, y1], _, [v0, v1], _ =>
  have g0 := hf 0 _ rfl
  have g1 := hf 1 _ rfl
  have hone : ∀ t, t = 27 ∨ t = 9 → Try.prog.cellsOf t = 1 := by
   rintro t (rfl | rfl) <;> kernel_rfl
  simp [hone] at g0 g1
  obtain ⟨s0, hv0, hd0, hs0⟩ := DataW.trod_string Try.underlying9 g0
  obtain ⟨z1, hv1, _, hz1⟩ := DataW.trod_int Try.underlying27 g1
  simp at hv0 hv1
  subst hv0 hv1
  have w1 := lit_u32' hz1
  have e1 : ((z1.toNat : Nat) : Int) = z1 := by omega
  refine ⟨s0, z1.toNat, by rw [hce, e1], ⟨hs0, by show z1.toNat < _; omega⟩, ?_⟩
  have hx1 : x.1 = .agg [y0.1, y1.1] := by rw [hxy]; rfl
  rw [hx1]
  simp only [DataW.weights, Try.underlying29]
  refine DataW.weights_mem_each (j := 0) rfl rfl _ ?_
  rw [hd0]
  simp [DataW.weights]
theorem fks_weights {e : TypeId} {m : Nat} : ∀ {l : List (DataW H)} {d : DataW H}, d ∈ l → m ∈ d.weights Try.prog e → m ∈ DataW.weightsAll Try.prog e l
 | d0 :: l, d, hd, hm => by
  simp only [DataW.weightsAll, List.mem_append]
  rcases List.mem_cons.1 hd with rfl | hd
  ·exact .inl hm
  ·exact .inr (fks_weights hd hm)
theorem open_fks {fuel : Nat} {A : Option Addr} {n c : Nat} {x : DataW H × List MemPlace} (h : DataW.trod enc Try.prog w base (fun _ => true) held fuel 24 [.slice A n c] = some x) (hw : ∀ m ∈ x.1.weights Try.prog 24, m ≤ reachBytes) :
  ∃ l, Fks w w.heap.size A n c l := by
 rcases open_slice Try.underlying24 h with ⟨hv, _⟩ | ⟨a, len, cap, m, k, D, Pl, hv, hb, hl, hm, hmm, hx, hi⟩
 ·simp at hv
  obtain ⟨rfl, rfl, rfl⟩ := hv
  exact ⟨[], Reads.none_, Nat.le_refl _, by simp [maxLen], by omega, by simp⟩
 simp at hv
 obtain ⟨rfl, rfl, rfl⟩ := hv
 have hmm : m = c := by simpa using hmm
 subst hmm
 have hce : Try.prog.cellsOf 29 = 2 := by kernel_rfl
 have hby : Try.prog.bytesOf 29 = 24 := by kernel_rfl
 have hn : n ≤ 5864062014805 := by
  have := hw (((List.range n).map D).length * 24 + ((List.range (m - n)).map fun j => D (n + j)).length * 24) (by
   rw [hx]
   simp [DataW.weights, Try.underlying24, hby, Nat.add_mul])
  rw [List.length_map, List.length_range] at this
  unfold reachBytes at this
  omega
 have each : ∀ i, i < n → ∃ q : Fk, (∀ j u, q.cells[j]? = some u → w.cell? ((a.add (i * 2)).add j) = some u) ∧ (FkOk q ∧ q.nm.size ≤ 140737488351232) ∧ a.block < w.heap.size := by
  intro i hin
  obtain ⟨cs', h1, h2⟩ := hi i (by omega)
  rw [hce] at h1
  obtain ⟨_, hlen, hcell⟩ := World.cells?_some h1
  obtain ⟨nm, rt, e, hok, hwt⟩ := open_fkw (cs := cs'.toArray) (by simpa using h2) (by simpa using hlen)
  have e' : cs' = [.string nm, .int .u32 rt] := by
   have := congrArg Array.toList e
   simpa using this
  have hnm : nm.size ≤ reachBytes := hw _ (by
   rw [hx]
   simp only [DataW.weights, Try.underlying24, List.mem_cons, List.mem_append]
   exact .inr (.inl (fks_weights (d := D i) (List.mem_map.2 ⟨i, List.mem_range.2 hin, rfl⟩) hwt)))
  unfold reachBytes at hnm
  refine ⟨⟨nm, rt⟩, fun j u hu => ?_, ⟨hok, hnm⟩, ?_⟩
  ·have hj : j < 2 := (List.getElem?_eq_some_iff.1 hu).1
   rw [hcell j hj, e']
   exact hu
  ·have h0 := hcell 0 (by omega)
   rw [e'] at h0
   have := World.block_lt_of_cell? w _ h0
   simpa [block_add] using this
 obtain ⟨q, hq⟩ := choose_lt each
 have hlq : ((List.range n).map q).length = n := by simp
 refine ⟨(List.range n).map q, ⟨by rw [fkc, rowsOf_length Fk.cells_len, hlq], fun h0 => ⟨a, rfl, (hq 0 (by omega)).2.2, fun j u hu => ?_⟩⟩, hl, hm, hn, fun b hb' => ?_⟩
 ·have hj : j < n * 2 := by
   have h1 := (List.getElem?_eq_some_iff.1 hu).1
   rw [fkc, rowsOf_length Fk.cells_len, hlq] at h1
   exact h1
  have hd : j / 2 < n := by omega
  have hg := rowsOf_get Fk.cells_len ((List.range n).map q) (j / 2) (j % 2) (q (j / 2)) (by simp [hd]) (by omega)
  rw [show j / 2 * 2 + j % 2 = j by omega] at hg
  have hu' : (q (j / 2)).cells[j % 2]? = some u := by rw [← hg]; exact hu
  have := (hq (j / 2) hd).1 (j % 2) u hu'
  rw [add_add, show j / 2 * 2 + j % 2 = j by omega] at this
  exact this
 ·obtain ⟨i, hi', rfl⟩ := List.mem_map.1 hb'
  exact (hq i (List.mem_range.1 hi')).2.1
end
end Go.Proofs.Ytgnpldlgdapehaa

