/-
  Texts that the main proof rests on, put together: Pg, Cn. No statement is proved here.
-/
import Derived.Test.YtmmjckokjmpfpaaGreatJ1
import Derived.Test.YtmmjckokjmpfpaaGreatJ8
import Derived.Sort.Walk0
set_option linter.unusedVariables false
set_option linter.unusedSimpArgs false
namespace Go.Proofs.YtmmjckokjmpfpaaGreat
open Go.RowKit
open Go.Lib hiding intOf

structure Pg where
 kd : Int
 ct : Int
 pg : Nat
 lk : Nat
 tx : Nat
 bd : ByteArray
def Pg.cells (b : Pg) : List Value := [.int .i64 b.kd, .int .i64 b.ct, .int .u32 b.pg, .int .u32 b.lk, .int .u64 b.tx, .string b.bd]
def Pg.agg (b : Pg) : Value := .agg #[.int .i64 b.kd, .int .i64 b.ct, .int .u32 b.pg, .int .u32 b.lk, .int .u64 b.tx, .string b.bd]
def Pg.zero : Pg := ⟨0, 0, 0, 0, 0, ByteArray.empty⟩
theorem Pg.cells_len (b : Pg) : b.cells.length = 6 := rfl
def pgcs (l : List Pg) : List Value := rowsOf Pg.cells l
theorem pgcs_len {w : World} {B n : Nat} {A : Option Addr} {l : List Pg} (h : Reads w B 6 A n (pgcs l)) : l.length = n := rows_len (fun b => Pg.cells_len b) (by decide) h
theorem pgcs_append (l m : List Pg) : pgcs (l ++ m) = pgcs l ++ pgcs m := rowsOf_append l m
structure Lk where
 p : Pg
 e : Int
theorem cells7 {w : World} {p : Addr} {v0 v1 v2 v3 v4 v5 v6 : Value} (h : ∀ j u, ([v0, v1, v2, v3, v4, v5, v6] : List Value)[j]? = some u → w.cell? (p.add j) = some u) :
  w.cell? p = some v0 ∧ w.cell? ⟨p.block, p.off + 1, none⟩ = some v1 ∧ w.cell? ⟨p.block, p.off + 2, none⟩ = some v2 ∧ w.cell? ⟨p.block, p.off + 3, none⟩ = some v3 ∧ w.cell? ⟨p.block, p.off + 4, none⟩ = some v4 ∧ w.cell? ⟨p.block, p.off + 5, none⟩ = some v5 ∧ w.cell? ⟨p.block, p.off + 6, none⟩ = some v6 := by
 have e : ∀ k, 0 < k → p.add k = ⟨p.block, p.off + k, none⟩ := fun k hk => by unfold Addr.add; rw [if_neg (by omega)]
 refine ⟨h 0 _ rfl, ?_, ?_, ?_, ?_, ?_, ?_⟩
 ·rw [← e 1 (by decide)]; exact h 1 _ rfl
 ·rw [← e 2 (by decide)]; exact h 2 _ rfl
 ·rw [← e 3 (by decide)]; exact h 3 _ rfl
 ·rw [← e 4 (by decide)]; exact h 4 _ rfl
 ·rw [← e 5 (by decide)]; exact h 5 _ rfl
 ·rw [← e 6 (by decide)]; exact h 6 _ rfl
theorem cells6p {w : World} {p : Addr} {v0 v1 v2 v3 v4 v5 : Value} (h : ∀ j u, ([v0, v1, v2, v3, v4, v5] : List Value)[j]? = some u → w.cell? (p.add j) = some u) :
  w.cell? p = some v0 ∧ w.cell? ⟨p.block, p.off + 1, none⟩ = some v1 ∧ w.cell? ⟨p.block, p.off + 2, none⟩ = some v2 ∧ w.cell? ⟨p.block, p.off + 3, none⟩ = some v3 ∧ w.cell? ⟨p.block, p.off + 4, none⟩ = some v4 ∧ w.cell? ⟨p.block, p.off + 5, none⟩ = some v5 := by
 have e : ∀ k, 0 < k → p.add k = ⟨p.block, p.off + k, none⟩ := fun k hk => by unfold Addr.add; rw [if_neg (by omega)]
 refine ⟨h 0 _ rfl, ?_, ?_, ?_, ?_, ?_⟩
 ·rw [← e 1 (by decide)]; exact h 1 _ rfl
 ·rw [← e 2 (by decide)]; exact h 2 _ rfl
 ·rw [← e 3 (by decide)]; exact h 3 _ rfl
 ·rw [← e 4 (by decide)]; exact h 4 _ rfl
 ·rw [← e 5 (by decide)]; exact h 5 _ rfl
def PgAt (w : World) (p : Addr) (b : Pg) : Prop := w.cell? p = some (.int .i64 b.kd) ∧ w.cell? ⟨p.block, p.off + 1, none⟩ = some (.int .i64 b.ct) ∧ w.cell? ⟨p.block, p.off + 2, none⟩ = some (.int .u32 b.pg) ∧ w.cell? ⟨p.block, p.off + 3, none⟩ = some (.int .u32 b.lk) ∧ w.cell? ⟨p.block, p.off + 4, none⟩ = some (.int .u64 b.tx) ∧ w.cell? ⟨p.block, p.off + 5, none⟩ = some (.string b.bd)
theorem page_at {w : World} {B n i : Nat} {A : Option Addr} {l : List Pg} (h : Reads w B 6 A n (pgcs l)) (hi : i < n) :
  ∃ ad x, A = some ad ∧ (ad.add (i * 6)).block < B ∧ l[i]? = some x ∧ PgAt w (ad.add (i * 6)) x := by
 obtain ⟨ad, x, hA, hb, hx, hc⟩ := row_at (fun b => Pg.cells_len b) (by decide) h hi
 exact ⟨ad, x, hA, by rw [block_add]; exact hb, hx, cells6p hc⟩
def blkOf (z : Nat) (s : ByteArray) (n : Nat) : ByteArray := s.extract (n * z) (n * z + z)
def readAt (size : Int) (s : ByteArray) (n : Nat) : Option Pg :=
 if goodSize size && (decide (n < s.size / size.toNat) && blockOk size n (blkOf size.toNat s n)) then
  some ⟨numAt (blkOf size.toNat s n) 4 1, numAt (blkOf size.toNat s n) 6 2, numAt (blkOf size.toNat s n) 8 4, numAt (blkOf size.toNat s n) 12 4, numAt (blkOf size.toNat s n) 16 8, (blkOf size.toNat s n).extract 24 (blkOf size.toNat s n).size⟩
 else none
theorem readAt_some {size : Int} {s : ByteArray} {n : Nat} {p : Pg} (h : readAt size s n = some p) : goodSize size = true ∧ n < s.size / size.toNat ∧ p.pg = n ∧ mayPg size p.kd p.ct p.pg p.lk p.tx p.bd = true := by
 unfold readAt at h
 split at h
 ·rename_i hc
  injection h with h
  subst h
  simp only [Bool.and_eq_true, decide_eq_true_eq] at hc
  obtain ⟨h1, h2, h3⟩ := hc
  simp only [blockOk, Bool.and_eq_true, decide_eq_true_eq] at h3
  obtain ⟨_, _, _, h4, h5⟩ := h3
  exact ⟨h1, h2, h4, h5⟩
 ·cases h
theorem readAt_bad {size : Int} {s : ByteArray} {n : Nat} (h : goodSize size = false) : readAt size s n = none := by unfold readAt; rw [h]; rfl
end Go.Proofs.YtmmjckokjmpfpaaGreat

namespace Go.Proofs.YtmmjckokjmpfpaaGreat
open Go.RowKit
open Go.Lib hiding intOf

def wasIn (L : List Pg) (n : Nat) : Bool := L.any fun p => decide (p.pg = n)
def goes (size : Int) (s : ByteArray) (kd : Int) (L : List Pg) (h : Nat) : Option Pg :=
 if decide (2 ≤ h) && !wasIn L h then (match readAt size s h with
  | some p => if p.kd = kd then some p else none
  | none => none) else none
def along (size : Int) (s : ByteArray) (kd : Int) (head : Nat) : Nat → List Pg × Nat
 | 0 => ([], head)
 | k + 1 => match goes size s kd (along size s kd head k).1 (along size s kd head k).2 with
  | some p => ((along size s kd head k).1 ++ [p], p.lk)
  | none => along size s kd head k
def chainL (size : Int) (s : ByteArray) (kd : Int) (head : Nat) : List Pg := (along size s kd head s.size).1
def chainOk (size : Int) (s : ByteArray) (kd : Int) (head : Nat) : Bool := decide ((along size s kd head s.size).2 = 0)
theorem goes_some {size : Int} {s : ByteArray} {kd : Int} {L : List Pg} {h : Nat} {p : Pg} (hg : goes size s kd L h = some p) : 2 ≤ h ∧ wasIn L h = false ∧ readAt size s h = some p ∧ p.kd = kd := by
 unfold goes at hg
 split at hg
 ·rename_i h1
  simp only [Bool.and_eq_true, decide_eq_true_eq, Bool.not_eq_true'] at h1
  split at hg
  ·rename_i q hq
   split at hg
   ·rename_i hk
    injection hg with hg
    subst hg
    exact ⟨h1.1, h1.2, hq, hk⟩
   ·cases hg
  ·cases hg
 ·cases hg
theorem along_next {size : Int} {s : ByteArray} {kd : Int} {head k h : Nat} {L : List Pg} {p : Pg} (ha : along size s kd head k = (L, h)) (hg : goes size s kd L h = some p) : along size s kd head (k + 1) = (L ++ [p], p.lk) := by
 simp only [along, ha, hg]
theorem along_stop {size : Int} {s : ByteArray} {kd : Int} {head k h : Nat} {L : List Pg} (ha : along size s kd head k = (L, h)) (hg : goes size s kd L h = none) : ∀ d, along size s kd head (k + d) = (L, h)
 | 0 => ha
 | d + 1 => by
  rw [← Nat.add_assoc]
  simp only [along, along_stop ha hg d, hg]
def Fresh (P : Nat) : List Pg → Prop
 | [] => True
 | p :: l => p.pg < P ∧ wasIn l p.pg = false ∧ Fresh P l
theorem wasIn_append (L M : List Pg) (n : Nat) : wasIn (L ++ M) n = (wasIn L n || wasIn M n) := by unfold wasIn; rw [List.any_append]
theorem Fresh.snoc {P : Nat} : ∀ {L : List Pg} {p : Pg}, Fresh P L → p.pg < P → wasIn L p.pg = false → Fresh P (L ++ [p])
 | [], p, _, h1, _ => ⟨h1, rfl, trivial⟩
 | q :: l, p, ⟨g1, g2, g3⟩, h1, h2 => by
  have h3 : wasIn l p.pg = false ∧ ¬ q.pg = p.pg := by
   unfold wasIn at h2 ⊢
   simp only [List.any_cons, Bool.or_eq_false_iff, decide_eq_false_iff_not] at h2
   exact ⟨h2.2, h2.1⟩
  refine ⟨g1, ?_, Fresh.snoc g3 h1 h3.1⟩
  show wasIn (l ++ [p]) q.pg = false
  rw [wasIn_append, g2]
  unfold wasIn
  simp
  exact fun h => h3.2 h.symm
theorem fresh_drop {P : Nat} : ∀ {L : List Pg}, Fresh (P + 1) L → ∃ M, Fresh P M ∧ L.length ≤ M.length + 1 ∧ ∀ n, n < P → wasIn M n = wasIn L n
 | [], _ => ⟨[], trivial, by simp, fun n _ => rfl⟩
 | q :: l, ⟨g1, g2, g3⟩ => by
  by_cases hq : q.pg = P
  ·refine ⟨l, ?_, by simp, fun n hn => ?_⟩
   ·clear g1
    induction l with
    | nil => trivial
    | cons a t ih =>
     have h2 : ¬ a.pg = q.pg ∧ wasIn t q.pg = false := by
      unfold wasIn at g2 ⊢
      simp only [List.any_cons, Bool.or_eq_false_iff, decide_eq_false_iff_not] at g2
      exact g2
     exact ⟨by have := g3.1; omega, g3.2.1, ih h2.2 g3.2.2⟩
   ·unfold wasIn
    simp only [List.any_cons]
    rw [decide_eq_false (by omega : ¬ q.pg = n), Bool.false_or]
  ·obtain ⟨M, h1, h2, h3⟩ := fresh_drop g3
   refine ⟨q :: M, ⟨by omega, ?_, h1⟩, by simp only [List.length_cons]; omega, fun n hn => ?_⟩
   ·rw [h3 q.pg (by omega)]
    exact g2
   ·have := h3 n hn
    unfold wasIn at this ⊢
    simp only [List.any_cons]
    rw [this]
theorem fresh_le : ∀ {P : Nat} {L : List Pg}, Fresh P L → L.length ≤ P
 | 0, [], _ => Nat.le_refl _
 | 0, q :: l, h => absurd h.1 (by omega)
 | P + 1, L, h => by
  obtain ⟨M, h1, h2, _⟩ := fresh_drop h
  have := fresh_le h1
  omega
theorem along_fresh {size : Int} {s : ByteArray} {kd : Int} {head : Nat} : ∀ k, Fresh (s.size / size.toNat) (along size s kd head k).1
 | 0 => trivial
 | k + 1 => by
  have ih := along_fresh (size := size) (s := s) (kd := kd) (head := head) k
  simp only [along]
  split
  ·rename_i p hp
   obtain ⟨_, h2, h3, _⟩ := goes_some hp
   obtain ⟨_, h4, h5, _⟩ := readAt_some h3
   exact ih.snoc (by rw [h5]; exact h4) (by rw [h5]; exact h2)
  ·exact ih
theorem along_len {size : Int} {s : ByteArray} {kd : Int} {head k h : Nat} {L : List Pg} (ha : along size s kd head k = (L, h)) (hl : L.length = k) {p : Pg} (hg : goes size s kd L h = some p) : k + 1 ≤ s.size := by
 have h1 := along_fresh (size := size) (s := s) (kd := kd) (head := head) (k + 1)
 rw [along_next ha hg] at h1
 have h2 := fresh_le h1
 rw [List.length_append, hl] at h2
 have h3 := Nat.div_le_self s.size size.toNat
 simp at h2
 omega
theorem chain_end {size : Int} {s : ByteArray} {kd : Int} {head k h : Nat} {L : List Pg} (hk : k ≤ s.size) (ha : along size s kd head k = (L, h)) (hg : goes size s kd L h = none) : chainL size s kd head = L ∧ chainOk size s kd head = decide (h = 0) := by
 have h1 := along_stop ha hg (s.size - k)
 rw [show k + (s.size - k) = s.size by omega] at h1
 exact ⟨by rw [chainL, h1], by rw [chainOk, h1]⟩
theorem goes_zero {size : Int} {s : ByteArray} {kd : Int} {L : List Pg} : goes size s kd L 0 = none := by unfold goes; rfl
theorem goes_bad {size : Int} {s : ByteArray} {kd : Int} {L : List Pg} {h : Nat} (hg : readAt size s h = none) : goes size s kd L h = none := by
 unfold goes; rw [hg]; simp
theorem goes_is {size : Int} {s : ByteArray} {kd : Int} {L : List Pg} {h : Nat} {p : Pg} (hg : readAt size s h = some p) : goes size s kd L h = if (decide (h < 2) || !decide (p.kd = kd)) || wasIn L h then none else some p := by
 unfold goes
 rw [hg]
 by_cases h1 : 2 ≤ h <;> by_cases h2 : p.kd = kd <;> cases h3 : wasIn L h <;> simp [h1, h2] <;> omega
def followL (size : Int) (s : ByteArray) (kd : Int) (head : Nat) : List Lk := (chainL size s kd head).map (fun p => ⟨p, 0⟩) ++ (if chainOk size s kd head then [] else [⟨Pg.zero, 4⟩])
end Go.Proofs.YtmmjckokjmpfpaaGreat

