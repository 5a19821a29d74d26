/-
  Texts that the main proof rests on, put together: Ref7May, CatPlain, FkPlain, CatParse, FkParse, It, FkMath, Its, Kit8, FkBack. No statement is proved here.
-/
import Derived.Test.YtmmjckokjmpfpaaGreatJ8
import Derived.Deep.CutRange
import Derived.Deep.DrawnRows
import Derived.Deep.QuietTactic
import Derived.BigQuiet
import Derived.Lib.MinMax
import Derived.Test.YtmmjckokjmpfpaaGreatJ1
import Derived.Sort.Walk0
import Derived.Lib.Hide
set_option linter.unusedVariables false
set_option linter.unusedSimpArgs false
namespace Go.Proofs.YtmmjckokjmpfpaaGreat
open Go.RowKit
open Go.Lib hiding intOf
attribute [local go_sem ↓] Go.wp_at_zero Go.wp_at_succ

def keyF (s : ByteArray) : Bool := decide (s.size ≤ 40)
def okFk (b : Fk) : Bool := keyF b.nm && numB b.rt
def okAtF (l : List Fk) (i : Nat) : Bool :=
 match l[i]? with
 | none => false
 | some b => okFk b && (decide (i = 0) || match l[i - 1]? with | some a => Op.bytesLess a.nm.toList b.nm.toList | none => true)
def allOkF (l : List Fk) : Bool := (List.range l.length).all (okAtF l)
def mayF (l : List Fk) : Bool := allOkF l && decide (0 < l.length)
theorem allOkF_no {l : List Fk} {k : Nat} (hk : k < l.length) (h : okAtF l k = false) : allOkF l = false := by
 rw [Bool.eq_false_iff]
 intro ha
 rw [allOkF, List.all_eq_true] at ha
 rw [ha k (List.mem_range.2 hk)] at h
 cases h
theorem allOkF_yes {l : List Fk} (h : ∀ j, j < l.length → okAtF l j = true) : allOkF l = true := by
 rw [allOkF, List.all_eq_true]
 exact fun j hj => h j (List.mem_range.1 hj)
theorem okAtF_of {l : List Fk} {k : Nat} {x : Fk} (hx : l[k]? = some x) : okAtF l k = (okFk x && (decide (k = 0) || match l[k - 1]? with | some a => Op.bytesLess a.nm.toList x.nm.toList | none => true)) := by
 rw [okAtF, hx]
def sizeF : List Fk → Nat
 | [] => 0
 | b :: l => 5 + b.nm.size + sizeF l
theorem sizeF_snoc (l : List Fk) (b : Fk) : sizeF (l ++ [b]) = sizeF l + (5 + b.nm.size) := by
 induction l with
 | nil => simp [sizeF]
 | cons c l ih => simp only [List.cons_append, sizeF, ih]; omega
theorem sizeF_take_succ {l : List Fk} {k : Nat} {x : Fk} (h : l[k]? = some x) : sizeF (l.take (k + 1)) = sizeF (l.take k) + (5 + x.nm.size) := by
 obtain ⟨hk, rfl⟩ := List.getElem?_eq_some_iff.1 h
 rw [List.take_succ_eq_append_getElem hk, sizeF_snoc]
theorem sizeF_take_le (l : List Fk) : ∀ k, sizeF (l.take k) ≤ sizeF l := by
 intro k
 induction l generalizing k with
 | nil => simp [sizeF]
 | cons c l ih => cases k with
  | zero => simp [sizeF]
  | succ k => simp only [List.take_succ_cons, sizeF]; have := ih k; omega
theorem five_le (l : List Fk) : l.length * 5 ≤ sizeF l := by
 induction l with
 | nil => simp [sizeF]
 | cons b l ih => simp only [sizeF, List.length_cons]; omega
def pickN (l : List Fk) (key : ByteArray) : Nat := (l.takeWhile fun f => !Op.bytesLess key.toList f.nm.toList).length
def pickF (l : List Fk) (key : ByteArray) : Nat := pickN l key - 1
theorem takeWhile_at {α : Type} {p : α → Bool} {l : List α} {k : Nat} (h : ∀ j y, j < k → l[j]? = some y → p y = true) (hk : k ≤ l.length) (hs : ∀ x, l[k]? = some x → p x = false) : (l.takeWhile p).length = k := by
 induction k generalizing l with
 | zero =>
  cases l with
  | nil => rfl
  | cons x l => simp [List.takeWhile, hs x rfl]
 | succ k ih =>
  cases l with
  | nil => simp at hk
  | cons x l =>
   have h0 := h 0 x (by omega) rfl
   rw [List.takeWhile_cons, if_pos h0, List.length_cons, ih (fun j y hj hy => h (j + 1) y (by omega) (by simpa using hy)) (by simpa using hk) (fun y hy => hs y (by simpa using hy))]
theorem less_tot7 : ∀ (a b : List UInt8), Op.bytesLess a b = false → Op.bytesLess b a = false → a = b
 | [], [], _, _ => rfl
 | [], b :: y, h, _ => by simp [Op.bytesLess] at h
 | a :: x, [], _, h => by simp [Op.bytesLess] at h
 | a :: x, b :: y, h1, h2 => by
  simp only [Op.bytesLess, Bool.or_eq_false_iff, Bool.and_eq_false_iff, decide_eq_false_iff_not, beq_eq_false_iff_ne] at h1 h2
  have hab : a = b := by
   have e1 := h1.1
   have e2 := h2.1
   rw [UInt8.lt_iff_toNat_lt] at e1 e2
   exact UInt8.toNat_inj.1 (by omega)
  subst hab
  rw [less_tot7 x y (by simpa using h1.2) (by simpa using h2.2)]
theorem leq_not (a b : List UInt8) : (Op.bytesLess a b || a == b) = !Op.bytesLess b a := by
 rcases h1 : Op.bytesLess a b with _ | _
 ·rcases h2 : Op.bytesLess b a with _ | _
  ·rw [less_tot7 a b h1 h2]; simp
  ·have h3 : (a == b) = false := by
    rw [Bool.eq_false_iff]
    intro he
    rw [beq_iff_eq] at he
    rw [he, bytesLess_eq, decide_eq_true_eq] at h2
    exact List.lt_irrefl _ h2
   rw [h3]; rfl
 ·rcases h2 : Op.bytesLess b a with _ | _
  ·rfl
  ·rw [bytesLess_eq, decide_eq_true_eq] at h1 h2
   exact absurd (List.lt_trans h1 h2) (List.lt_irrefl _)
theorem rkey_any (s : ByteArray) (w : World) : Calls Tryz.prog 81 #[.string s] w fun e w' => e = .returned (.bool (keyF s)) ∧ w' = w := by
 by_cases h1 : s.size ≤ 40
 ·have h1' : (s.size : Int) ≤ 40 := by omega
  have HE := Lib.hid (show keyF s = true by simp [keyF, h1])
  go_enter Tryz.func81, Tryz.ntmps81
  go_wp2
  go_ret
  exact ⟨by rw [HE.out]; rfl, rfl⟩
 ·have h1' : ¬ (s.size : Int) ≤ 40 := by omega
  have HE := Lib.hid (show keyF s = false by simp [keyF, h1])
  go_enter Tryz.func81, Tryz.ntmps81
  go_wp2
  go_ret
  exact ⟨by rw [HE.out]; rfl, rfl⟩
theorem rone7_any (b : Fk) (w : World) (hs : b.nm.size ≤ 9007199254740992) : Calls Tryz.prog 82 #[.agg #[.string b.nm, .int .u32 b.rt]] w fun e w' => e = .returned (.int .i64 (5 + (b.nm.size : Int))) ∧ Below w.heap.size w w' := by
 go_enter Tryz.func82, Tryz.ntmps82
 go_wp2
 go_ret
 exact ⟨rfl, (Below.refl _ _).alloc (Nat.le_refl _) _⟩
set_option maxRecDepth 100000 in
set_option maxHeartbeats 3200000 in
theorem rsize7_any (A : Option Addr) (n c : Nat) (l : List Fk) (w : World) (hr : Reads w w.heap.size 2 A n (fkc l)) (hn : n ≤ maxLen) (hs : sizeF l ≤ 9007199254740992) :
  Calls Tryz.prog 48 #[.slice A n c] w fun e w' => e = .returned (.int .i64 (sizeF l)) ∧ Below w.heap.size w w' := by
 have hl := fk_len hr
 have HR := Lib.hid hr
 have HL := Lib.hid hl
 unfold maxLen at hn
 clear hr hl
 go_enter Tryz.func48, Tryz.ntmps48
 go_wp2_with fail
 go_loopw [3, 4] (fun s i wr => ∃ k : Nat, k ≤ n ∧ i = .int .i64 k ∧ s = .int .i64 (sizeF (l.take k)) ∧ Hid (Below w.heap.size w wr)) (fun _ i _ => n - (intOf i).toNat)
 case atStart => exact ⟨0, Nat.zero_le _, rfl, by simp [sizeF], Lib.hid (Below.refl _ _)⟩
 case round =>
  obtain ⟨k, hk, rfl, rfl, HB⟩ := hrel
  by_cases hlt : k < n
  ·obtain ⟨ad, x, rfl, _, hp, hx, hc⟩ := fk_at HR.out hlt
   obtain ⟨hc0, hc1⟩ := hc.below HB.out hp
   have hk0 : (0 : Int) ≤ k := by omega
   have hk1 : (k : Int) < n := by omega
   have hsz := sizeF_take_succ hx
   have hle := sizeF_take_le l (k + 1)
   have HX := Lib.hid hsz
   have hxs : x.nm.size ≤ 9007199254740992 := by omega
   have hks : sizeF (l.take k) + (5 + x.nm.size) ≤ 9007199254740992 := by omega
   have HO := fun w => rone7_any x w hxs
   clear hx hsz hle
   go_wp2_with fail
   refine (HO _).mono ?_
   rintro e w1 ⟨rfl, hb⟩
   replace HB := Lib.hid (HB.out.trans (hb.mono HB.out.size))
   clear hb hc hc0 hc1 HO
   have hadd : ((sizeF (l.take k) : Nat) : Int) + (5 + (x.nm.size : Int)) = ((sizeF (l.take (k + 1)) : Nat) : Int) := by rw [HX.out]; omega
   go_wp2
   go_roundw
   case rel =>
    first
     | exact ⟨k + 1, by omega, by go_num, by first | rfl | (rw [← hadd]; go_num), HB⟩
     | ((repeat apply Exists.intro); exact ⟨⟨k + 1, by omega, by go_num, by first | rfl | (rw [← hadd]; go_num), HB⟩, rfl⟩)
   case measure => simp [intOf]; omega
  ·obtain rfl : k = n := by omega
   have ht : l.take k = l := List.take_of_length_le (by rw [HL.out]; exact Nat.le_refl _)
   rw [ht]
   clear hlt
   go_wp2
   go_ret
   exact ⟨rfl, HB.out⟩
end Go.Proofs.YtmmjckokjmpfpaaGreat

namespace Go.Proofs.YtmmjckokjmpfpaaGreat
open Go.RowKit
open Go.Lib hiding intOf

end Go.Proofs.YtmmjckokjmpfpaaGreat

namespace Go.Proofs.YtmmjckokjmpfpaaGreat
open Go.RowKit
open Go.Lib hiding intOf

def Fk.bytes (b : Fk) : List UInt8 := Go.leBytes 1 b.nm.size ++ (b.nm.data.toList ++ Go.leBytes 4 b.rt)
def bytesF (l : List Fk) : List UInt8 := l.flatMap Fk.bytes
theorem Fk.bytes_len (b : Fk) : b.bytes.length = 5 + b.nm.size := by
 simp only [Fk.bytes, List.length_append, leB_len, size_list]
 omega
theorem bytesF_len (l : List Fk) : (bytesF l).length = sizeF l := by
 induction l with
 | nil => rfl
 | cons b l ih =>
  simp only [bytesF, List.flatMap_cons, List.length_append, Fk.bytes_len, sizeF] at ih ⊢
  rw [ih]
theorem bytesF_take_succ {l : List Fk} {k : Nat} {x : Fk} (h : l[k]? = some x) : bytesF (l.take (k + 1)) = bytesF (l.take k) ++ x.bytes := by
 obtain ⟨hk, rfl⟩ := List.getElem?_eq_some_iff.1 h
 rw [List.take_succ_eq_append_getElem hk]
 simp only [bytesF, List.flatMap_append, List.flatMap_cons, List.flatMap_nil, List.append_nil]
def forkBody (size : Nat) (l : List Fk) : ByteArray := ⟨(bytesF l ++ List.replicate (size - 24 - sizeF l) 0).toArray⟩
theorem allOkF_at {l : List Fk} (h : allOkF l = true) {k : Nat} (hk : k < l.length) : okAtF l k = true := by
 rw [allOkF, List.all_eq_true] at h
 exact h k (List.mem_range.2 hk)
theorem allOkF_ok {l : List Fk} (h : allOkF l = true) {k : Nat} {x : Fk} (hx : l[k]? = some x) : okFk x = true := by
 have := allOkF_at h (List.getElem?_eq_some_iff.1 hx).1
 rw [okAtF_of hx, Bool.and_eq_true] at this
 exact this.1
end Go.Proofs.YtmmjckokjmpfpaaGreat

namespace Go.Proofs.YtmmjckokjmpfpaaGreat
open Go.RowKit
open Go.Lib hiding intOf

def fits (b : Bk) : Prop := b.nm.size < 256 ∧ b.rt < 4294967296 ∧ 0 ≤ b.ks ∧ b.ks < 4294967296
end Go.Proofs.YtmmjckokjmpfpaaGreat

namespace Go.Proofs.YtmmjckokjmpfpaaGreat
open Go.RowKit
open Go.Lib hiding intOf

def stepF : List UInt8 → Option (Fk × List UInt8)
 | [] => none
 | n :: r => if r.length < n.toNat + 4 then none else some (⟨⟨(r.take n.toNat).toArray⟩, leNat ((r.drop n.toNat).take 4)⟩, (r.drop n.toNat).drop 4)
def parseF : Nat → List UInt8 → Option (List Fk × List UInt8)
 | 0, bs => some ([], bs)
 | k + 1, bs => match parseF k bs with
  | none => none
  | some (l, r) => match stepF r with
   | none => none
   | some (b, r') => some (l ++ [b], r')
theorem parseF_len : ∀ {k : Nat} {bs : List UInt8} {l : List Fk} {r : List UInt8}, parseF k bs = some (l, r) → l.length = k
 | 0, bs, l, r, h => by simp [parseF] at h; obtain ⟨rfl, _⟩ := h; rfl
 | k + 1, bs, l, r, h => by
  simp only [parseF] at h
  split at h
  ·cases h
  ·rename_i l0 r0 h0
   split at h
   ·cases h
   ·rename_i b r1 _
    injection h with h
    injection h with h1 _
    rw [← h1, List.length_append, parseF_len h0]
    rfl
theorem stepF_size {bs r : List UInt8} {b : Fk} (h : stepF bs = some (b, r)) : 5 + b.nm.size + r.length = bs.length := by
 cases bs with
 | nil => simp [stepF] at h
 | cons n t =>
  simp only [stepF] at h
  split at h
  ·cases h
  ·injection h with h
   injection h with h1 h2
   rw [← h1, ← h2]
   show 5 + (t.take n.toNat).toArray.size + _ = _
   simp
   omega
theorem parseF_size : ∀ {k : Nat} {bs : List UInt8} {l : List Fk} {r : List UInt8}, parseF k bs = some (l, r) → sizeF l + r.length = bs.length
 | 0, bs, l, r, h => by simp [parseF] at h; obtain ⟨rfl, rfl⟩ := h; simp [sizeF]
 | k + 1, bs, l, r, h => by
  simp only [parseF] at h
  split at h
  ·cases h
  ·rename_i l0 r0 h0
   split at h
   ·cases h
   ·rename_i b r1 hs
    injection h with h
    injection h with h1 h2
    have e1 := parseF_size h0
    have e2 := stepF_size hs
    rw [← h1, ← h2, sizeF_snoc]
    omega
theorem parseF_none {k : Nat} {bs : List UInt8} (h : parseF k bs = none) : ∀ d, parseF (k + d) bs = none
 | 0 => h
 | d + 1 => by rw [← Nat.add_assoc]; simp only [parseF, parseF_none h d]
theorem parseF_step {k : Nat} {bs r r' : List UInt8} {l : List Fk} {b : Fk} (h : parseF k bs = some (l, r)) (hs : stepF r = some (b, r')) : parseF (k + 1) bs = some (l ++ [b], r') := by simp only [parseF, h, hs]
theorem parseF_stop {k : Nat} {bs r : List UInt8} {l : List Fk} (h : parseF k bs = some (l, r)) (hs : stepF r = none) : parseF (k + 1) bs = none := by simp only [parseF, h, hs]
def fitsF (b : Fk) : Prop := b.nm.size < 256 ∧ b.rt < 4294967296
theorem okFk_fitsF {b : Fk} (h : okFk b = true) : fitsF b := by
 simp only [okFk, keyF, numB, Bool.and_eq_true, decide_eq_true_eq] at h
 exact ⟨by omega, by omega⟩
theorem stepF_bytes (b : Fk) (t : List UInt8) (h : fitsF b) : stepF (b.bytes ++ t) = some (b, t) := by
 obtain ⟨h1, h2⟩ := h
 have e1 : Go.leBytes 1 b.nm.size = [UInt8.ofNat b.nm.size] := by
  have := leBytes_snoc 0 b.nm.size
  rw [show 0 + 1 = 1 from rfl] at this
  rw [this]
  simp only [Go.leBytes, List.nil_append, Nat.mul_zero, Nat.pow_zero, Nat.div_one, Nat.mod_eq_of_lt h1]
 have hn : (UInt8.ofNat b.nm.size).toNat = b.nm.size := by simp; omega
 simp only [Fk.bytes, e1, List.cons_append, List.nil_append, List.append_assoc, stepF, hn]
 have hl : b.nm.data.toList.length = b.nm.size := size_list _
 have l4 : ∀ v, (Go.leBytes 4 v).length = 4 := fun v => leB_len 4 v
 rw [if_neg (by simp only [List.length_append, l4, hl]; omega)]
 rw [List.take_left' hl, List.drop_left' hl, List.take_left' (l4 _), List.drop_left' (l4 _)]
 have hr : leNat (Go.leBytes 4 b.rt) = b.rt := by rw [leNat_leBytes_mod]; omega
 congr 2
 exact Fk.ext_ (by apply bytes_ext; simp) hr
theorem parseF_bytes (l : List Fk) (t : List UInt8) (h : ∀ b, b ∈ l → fitsF b) : ∀ k, k ≤ l.length → parseF k (bytesF l ++ t) = some (l.take k, bytesF (l.drop k) ++ t)
 | 0, _ => by simp [parseF]
 | k + 1, hk => by
  have ih := parseF_bytes l t h k (by omega)
  have hx : l.drop k = l[k] :: l.drop (k + 1) := List.drop_eq_getElem_cons (by omega)
  have hs : stepF (bytesF (l.drop k) ++ t) = some (l[k], bytesF (l.drop (k + 1)) ++ t) := by
   rw [hx]
   simp only [bytesF, List.flatMap_cons, List.append_assoc]
   exact stepF_bytes l[k] _ (h _ (List.getElem_mem _))
  simp only [parseF, ih, hs]
  rw [List.take_succ_eq_append_getElem (by omega)]
theorem parseF_all (l : List Fk) (t : List UInt8) (h : ∀ b, b ∈ l → fitsF b) : parseF l.length (bytesF l ++ t) = some (l, t) := by
 have := parseF_bytes l t h l.length (Nat.le_refl _)
 simpa [bytesF] using this
def mayP7 (size : Int) (n tx : Nat) (l : List Fk) : Bool := goodSize size && (mayF l && (decide ((sizeF l : Int) ≤ size - 24) && (numB n && decide (tx ≤ 4611686018427387904))))
def readF (kd ct : Int) (pg lk ty : Nat) (bd : ByteArray) : Option (List Fk) :=
 match parseF ct.toNat bd.data.toList with
 | none => none
 | some (l, _) => if mayP7 ((bd.size + 24 : Nat) : Int) pg ty l && decide (kd = 3 ∧ ct = l.length ∧ lk = 0 ∧ bd = forkBody (bd.size + 24) l) then some l else none
theorem mayP7_parts {z n tx : Nat} {l : List Fk} (h : mayP7 z n tx l = true) : allOkF l = true ∧ 0 < l.length ∧ goodSize z = true ∧ (sizeF l ≤ z - 24 ∧ 24 ≤ z) ∧ (2 ≤ n ∧ n ≤ 2147483647) ∧ tx ≤ 4611686018427387904 := by
 simp only [mayP7, mayF, numB, Bool.and_eq_true, decide_eq_true_eq] at h
 obtain ⟨h1, ⟨h2, h3⟩, h4, h5, h6⟩ := h
 have := good_pos h1
 exact ⟨h2, h3, h1, by omega, h5, h6⟩
theorem forkBody_size (z : Nat) (l : List Fk) (h : sizeF l ≤ z - 24) : (forkBody z l).size = z - 24 := by
 show (bytesF l ++ List.replicate (z - 24 - sizeF l) 0).toArray.size = _
 rw [List.size_toArray, List.length_append, List.length_replicate, bytesF_len]
 omega
theorem readF_page {z n tx : Nat} {l : List Fk} (h : mayP7 z n tx l = true) : readF 3 l.length n 0 tx (forkBody z l) = some l := by
 obtain ⟨hall, h0, hg, hroom, hn, htx⟩ := mayP7_parts h
 have hgp := good_pos hg
 have hsz := forkBody_size z l hroom.1
 have hz : (forkBody z l).size + 24 = z := by omega
 unfold readF
 have hp : parseF (l.length : Int).toNat (forkBody z l).data.toList = some (l, List.replicate (z - 24 - sizeF l) 0) := by
  show parseF l.length _ = _
  have : (forkBody z l).data.toList = bytesF l ++ List.replicate (z - 24 - sizeF l) 0 := by simp [forkBody]
  rw [this]
  refine parseF_all l _ fun b hb => ?_
  obtain ⟨i, hi, rfl⟩ := List.mem_iff_getElem.1 hb
  exact okFk_fitsF (allOkF_ok hall (List.getElem?_eq_getElem hi))
 simp only [hp, hz]
 rw [if_pos (by rw [h]; simp)]
theorem readF_some {kd ct : Int} {pg lk ty : Nat} {bd : ByteArray} {l : List Fk} (h : readF kd ct pg lk ty bd = some l) : mayP7 ((bd.size + 24 : Nat) : Int) pg ty l = true ∧ kd = 3 ∧ ct = l.length ∧ lk = 0 ∧ bd = forkBody (bd.size + 24) l := by
 unfold readF at h
 split at h
 ·cases h
 ·split at h
  ·rename_i hc
   injection h with h
   subst h
   rw [Bool.and_eq_true, decide_eq_true_eq] at hc
   exact ⟨hc.1, hc.2⟩
  ·cases h
end Go.Proofs.YtmmjckokjmpfpaaGreat

namespace Go.Proofs.YtmmjckokjmpfpaaGreat
open Go.RowKit

theorem cells5 {w : World} {p : Addr} {v0 v1 v2 v3 v4 : Value} (h : ∀ j u, ([v0, v1, v2, v3, v4] : List Value)[j]? = some u → w.cell? (p.add j) = some u) :
  w.cell? p = some v0 ∧ w.cell? ⟨p.block, p.off + 1, none⟩ = some v1 ∧ w.cell? ⟨p.block, p.off + 2, none⟩ = some v2 ∧ w.cell? ⟨p.block, p.off + 3, none⟩ = some v3 ∧ w.cell? ⟨p.block, p.off + 4, none⟩ = some v4 := by
 have e : ∀ k, 0 < k → p.add k = ⟨p.block, p.off + k, none⟩ := fun k hk => by unfold Addr.add; rw [if_neg (by omega)]
 refine ⟨h 0 _ rfl, ?_, ?_, ?_, ?_⟩
 ·rw [← e 1 (by decide)]; exact h 1 _ rfl
 ·rw [← e 2 (by decide)]; exact h 2 _ rfl
 ·rw [← e 3 (by decide)]; exact h 3 _ rfl
 ·rw [← e 4 (by decide)]; exact h 4 _ rfl
structure It where
 ky : ByteArray
 vl : ByteArray
 ov : Bool
 ln : Int
 hd : Nat
def It.cells (b : It) : List Value := [.string b.ky, .string b.vl, .bool b.ov, .int .i64 b.ln, .int .u32 b.hd]
theorem It.cells_len (b : It) : b.cells.length = 5 := rfl
theorem It.ext_ {a b : It} (h1 : a.ky = b.ky) (h2 : a.vl = b.vl) (h3 : a.ov = b.ov) (h4 : a.ln = b.ln) (h5 : a.hd = b.hd) : a = b := by cases a; cases b; simp_all
def itc (l : List It) : List Value := rowsOf It.cells l
def ItAt (w : World) (p : Addr) (b : It) : Prop := w.cell? p = some (.string b.ky) ∧ w.cell? ⟨p.block, p.off + 1, none⟩ = some (.string b.vl) ∧ w.cell? ⟨p.block, p.off + 2, none⟩ = some (.bool b.ov) ∧ w.cell? ⟨p.block, p.off + 3, none⟩ = some (.int .i64 b.ln) ∧ w.cell? ⟨p.block, p.off + 4, none⟩ = some (.int .u32 b.hd)
theorem ItAt.below {w w' : World} {B : Nat} {p : Addr} {b : It} (h : ItAt w p b) (hb : Below B w w') (hp : p.block < B) : ItAt w' p b :=
 ⟨(hb.cell (p := p) hp).trans h.1, (hb.cell (p := ⟨p.block, p.off + 1, none⟩) hp).trans h.2.1, (hb.cell (p := ⟨p.block, p.off + 2, none⟩) hp).trans h.2.2.1, (hb.cell (p := ⟨p.block, p.off + 3, none⟩) hp).trans h.2.2.2.1, (hb.cell (p := ⟨p.block, p.off + 4, none⟩) hp).trans h.2.2.2.2⟩
theorem it_at {w : World} {B n i : Nat} {A : Option Addr} {l : List It} (h : Reads w B 5 A n (itc l)) (hi : i < n) :
  ∃ ad x, A = some ad ∧ ad.block < B ∧ (ad.add (i * 5)).block < B ∧ l[i]? = some x ∧ ItAt w (ad.add (i * 5)) x := by
 obtain ⟨ad, x, hA, hb, hx, hc⟩ := row_at (fun b => It.cells_len b) (by decide) h hi
 exact ⟨ad, x, hA, hb, by rw [block_add]; exact hb, hx, cells5 hc⟩
theorem it_len {w : World} {B n : Nat} {A : Option Addr} {l : List It} (h : Reads w B 5 A n (itc l)) : l.length = n := rows_len (fun b => It.cells_len b) (by decide) h
theorem itc_snoc (l : List It) (b : It) : itc l ++ b.cells = itc (l ++ [b]) := by simp [itc, rowsOf]
theorem itc_append (l m : List It) : itc (l ++ m) = itc l ++ itc m := rowsOf_append l m
end Go.Proofs.YtmmjckokjmpfpaaGreat

namespace Go.Proofs.YtmmjckokjmpfpaaGreat
open Go.RowKit
open Go.Lib hiding intOf

theorem takeWhile_len_le {α : Type} (p : α → Bool) (l : List α) : (l.takeWhile p).length ≤ l.length := by
 induction l with
 | nil => simp
 | cons x l ih =>
  rw [List.takeWhile_cons]
  split
  ·simp only [List.length_cons]; omega
  ·simp
theorem pickN_le (l : List Fk) (key : ByteArray) : pickN l key ≤ l.length := takeWhile_len_le _ _
theorem pickF_lt {l : List Fk} (h0 : 0 < l.length) (key : ByteArray) : pickF l key < l.length := by
 have := pickN_le l key
 unfold pickF
 omega
end Go.Proofs.YtmmjckokjmpfpaaGreat

namespace Go.Proofs.YtmmjckokjmpfpaaGreat
open Go.RowKit
open Go.Lib hiding intOf

def okIt (b : It) : Bool := if b.ov then keyF b.ky && (decide (b.vl.size = 0) && (decide (1 ≤ b.ln) && (decide (b.ln ≤ 4096) && numB b.hd))) else keyF b.ky && (decide (b.vl.size ≤ 255) && (decide (b.ln = 0) && decide (b.hd = 0)))
def okAtI (l : List It) (i : Nat) : Bool :=
 match l[i]? with
 | none => false
 | some b => okIt b && (decide (i = 0) || match l[i - 1]? with | some a => Op.bytesLess a.ky.toList b.ky.toList | none => true)
def allOkI (l : List It) : Bool := (List.range l.length).all (okAtI l)
def mayI (l : List It) : Bool := allOkI l && decide (0 < l.length)
theorem allOkI_no {l : List It} {k : Nat} (hk : k < l.length) (h : okAtI l k = false) : allOkI l = false := by
 rw [Bool.eq_false_iff]
 intro ha
 rw [allOkI, List.all_eq_true] at ha
 rw [ha k (List.mem_range.2 hk)] at h
 cases h
theorem allOkI_yes {l : List It} (h : ∀ j, j < l.length → okAtI l j = true) : allOkI l = true := by
 rw [allOkI, List.all_eq_true]
 exact fun j hj => h j (List.mem_range.1 hj)
theorem okAtI_of {l : List It} {k : Nat} {x : It} (hx : l[k]? = some x) : okAtI l k = (okIt x && (decide (k = 0) || match l[k - 1]? with | some a => Op.bytesLess a.ky.toList x.ky.toList | none => true)) := by
 rw [okAtI, hx]
def oneI (b : It) : Nat := if b.ov then 10 + b.ky.size else 3 + b.ky.size + b.vl.size
def sizeI : List It → Nat
 | [] => 0
 | b :: l => oneI b + sizeI l
theorem sizeI_snoc (l : List It) (b : It) : sizeI (l ++ [b]) = sizeI l + oneI b := by
 induction l with
 | nil => simp [sizeI]
 | cons c l ih => simp only [List.cons_append, sizeI, ih]; omega
theorem sizeI_take_succ {l : List It} {k : Nat} {x : It} (h : l[k]? = some x) : sizeI (l.take (k + 1)) = sizeI (l.take k) + oneI x := by
 obtain ⟨hk, rfl⟩ := List.getElem?_eq_some_iff.1 h
 rw [List.take_succ_eq_append_getElem hk, sizeI_snoc]
theorem sizeI_take_le (l : List It) : ∀ k, sizeI (l.take k) ≤ sizeI l := by
 intro k
 induction l generalizing k with
 | nil => simp [sizeI]
 | cons c l ih => cases k with
  | zero => simp [sizeI]
  | succ k => simp only [List.take_succ_cons, sizeI]; have := ih k; omega
theorem three_oneI (b : It) : 3 ≤ oneI b := by unfold oneI; split <;> omega
theorem three_le (l : List It) : l.length * 3 ≤ sizeI l := by
 induction l with
 | nil => simp [sizeI]
 | cons b l ih => simp only [sizeI, List.length_cons]; have := three_oneI b; omega
theorem okIt_one {b : It} (h : okIt b = true) : oneI b ≤ 298 := by
 unfold okIt at h
 unfold oneI
 split at h <;> rename_i hb <;> simp only [keyF, Bool.and_eq_true, decide_eq_true_eq] at h
 ·rw [if_pos hb]; omega
 ·rw [if_neg hb]; omega
theorem okAtI_ok {l : List It} {k : Nat} {x : It} (hx : l[k]? = some x) (h : okAtI l k = true) : okIt x = true := by
 rw [okAtI_of hx, Bool.and_eq_true] at h
 exact h.1
theorem allOkI_at {l : List It} (h : allOkI l = true) {k : Nat} (hk : k < l.length) : okAtI l k = true := by
 rw [allOkI, List.all_eq_true] at h
 exact h k (List.mem_range.2 hk)
theorem allOkI_ok {l : List It} (h : allOkI l = true) {k : Nat} {x : It} (hx : l[k]? = some x) : okIt x = true := okAtI_ok hx (allOkI_at h (List.getElem?_eq_some_iff.1 hx).1)
theorem sizeI_ok {l : List It} (h : allOkI l = true) : ∀ k, k ≤ l.length → sizeI (l.take k) ≤ 298 * k
 | 0, _ => by simp [sizeI]
 | k + 1, hk => by
  have hx : l[k]? = some l[k] := List.getElem?_eq_getElem (by omega)
  have ih := sizeI_ok h k (by omega)
  have hn := okIt_one (allOkI_ok h hx)
  rw [sizeI_take_succ hx]
  omega
theorem sizeI_all {l : List It} (h : allOkI l = true) : sizeI l ≤ 298 * l.length := by
 have := sizeI_ok h l.length (Nat.le_refl _)
 rwa [List.take_length] at this
def findN (l : List It) (key : ByteArray) : Nat := (l.takeWhile fun b => Op.bytesLess b.ky.toList key.toList).length
def findB (l : List It) (key : ByteArray) : Bool := match l[findN l key]? with | none => false | some b => b.ky.toList == key.toList
end Go.Proofs.YtmmjckokjmpfpaaGreat

namespace Go.Proofs.YtmmjckokjmpfpaaGreat
open Go.RowKit
open Go.Lib hiding intOf
attribute [local go_sem ↓] Go.wp_at_zero Go.wp_at_succ

def NearI (l : List It) : Prop := ∀ b, b ∈ l → b.ky.size ≤ 140737488351232 ∧ b.vl.size ≤ 140737488351232
end Go.Proofs.YtmmjckokjmpfpaaGreat

namespace Go.Proofs.YtmmjckokjmpfpaaGreat
open Go.RowKit
open Go.Lib hiding intOf

theorem leBytes_leNat : ∀ l : List UInt8, Go.leBytes l.length (leNat l) = l
 | [] => rfl
 | b :: t => by
  have hb := b.toNat_lt
  have h1 : (leNat (b :: t)) / 256 = leNat t := by simp only [leNat]; omega
  have h2 : (leNat (b :: t)) % 256 = b.toNat := by simp only [leNat]; omega
  rw [List.length_cons, Go.leBytes, h1, leBytes_leNat t]
  congr 1
  apply UInt8.toNat_inj.1
  first
   | (rw [h2]; simp)
   | (simp [h2])
theorem stepF_back {bs r : List UInt8} {b : Fk} (h : stepF bs = some (b, r)) : bs = b.bytes ++ r := by
 cases bs with
 | nil => simp [stepF] at h
 | cons n t =>
  simp only [stepF] at h
  split at h
  ·cases h
  ·rename_i hl
   injection h with h
   injection h with h1 h2
   subst h1 h2
   have hs : (t.take n.toNat).toArray.size = n.toNat := by simp; omega
   have e1 : Go.leBytes 1 n.toNat = [n] := by
    have := leBytes_leNat [n]
    simpa [leNat] using this
   have e4 : Go.leBytes 4 (leNat ((t.drop n.toNat).take 4)) = (t.drop n.toNat).take 4 := by
    have := leBytes_leNat ((t.drop n.toNat).take 4)
    rwa [show ((t.drop n.toNat).take 4).length = 4 by simp; omega] at this
   have hz : (⟨(t.take n.toNat).toArray⟩ : ByteArray).size = n.toNat := hs
   simp only [Fk.bytes, e4]
   rw [hz, e1]
   simp only [List.cons_append, List.nil_append, List.append_assoc, List.take_append_drop]
theorem parseF_back : ∀ {k : Nat} {bs : List UInt8} {l : List Fk} {r : List UInt8}, parseF k bs = some (l, r) → bs = bytesF l ++ r
 | 0, bs, l, r, h => by simp [parseF] at h; obtain ⟨rfl, rfl⟩ := h; simp [bytesF]
 | k + 1, bs, l, r, h => by
  simp only [parseF] at h
  split at h
  ·cases h
  ·rename_i l0 r0 h0
   split at h
   ·cases h
   ·rename_i b r1 hs
    injection h with h
    injection h with h1 h2
    subst h1 h2
    rw [parseF_back h0, stepF_back hs]
    simp [bytesF]
theorem zeros_rep : ∀ {l : List UInt8}, zeros l = true → l = List.replicate l.length 0
 | [], _ => rfl
 | b :: t, h => by
  simp only [zeros, List.all_cons, Bool.and_eq_true, beq_iff_eq] at h
  rw [List.length_cons, List.replicate_succ, ← zeros_rep (l := t) h.2, h.1]
theorem zeros_of_rep (n : Nat) : zeros (List.replicate n (0 : UInt8)) = true := by simp [zeros]
def forksF (ct : Int) (bd : List UInt8) : Option (List Fk) :=
 match parseF ct.toNat bd with
 | none => none
 | some (l, r) => if mayF l && zeros r then some l else none
def headF (kd : Int) (pg lk ty : Nat) (bd : ByteArray) : Bool := decide (kd = 3) && (decide (lk = 0) && (numB pg && (decide (ty ≤ 4611686018427387904) && goodSize ((bd.size + 24 : Nat) : Int))))
theorem readF_is (kd ct : Int) (pg lk ty : Nat) (bd : ByteArray) : readF kd ct pg lk ty bd = if headF kd pg lk ty bd then forksF ct bd.data.toList else none := by
 rw [readF, forksF]
 rcases hp : parseF ct.toNat bd.data.toList with _ | ⟨l, r⟩
 ·simp
 ·have hs := parseF_size hp
  have hb := parseF_back hp
  have hl := parseF_len hp
  rw [size_list] at hs
  have key : (mayP7 ((bd.size + 24 : Nat) : Int) pg ty l && decide (kd = 3 ∧ ct = l.length ∧ lk = 0 ∧ bd = forkBody (bd.size + 24) l)) = (headF kd pg lk ty bd && (mayF l && zeros r)) := by
   have hfit : decide ((sizeF l : Int) ≤ ((bd.size + 24 : Nat) : Int) - 24) = true := by simp; omega
   rw [mayP7, hfit, headF]
   rcases hm : mayF l with _ | _
   ·simp
   ·have hpos : 0 < l.length := by simp only [mayF, Bool.and_eq_true, decide_eq_true_eq] at hm; exact hm.2
    have hct : ct = l.length := by omega
    have hbd : (bd = forkBody (bd.size + 24) l) ↔ zeros r = true := by
     have hr : bd.size + 24 - 24 - sizeF l = r.length := by omega
     constructor
     ·intro h
      have h1 : bd.data.toList = bytesF l ++ List.replicate (bd.size + 24 - 24 - sizeF l) 0 := by
       have : (forkBody (bd.size + 24) l).data.toList = bytesF l ++ List.replicate (bd.size + 24 - 24 - sizeF l) 0 := by simp [forkBody]
       rw [← this, ← h]
      rw [hb] at h1
      rw [List.append_cancel_left h1]
      exact zeros_of_rep _
     ·intro h
      apply bytes_ext
      have : (forkBody (bd.size + 24) l).data.toList = bytesF l ++ List.replicate (bd.size + 24 - 24 - sizeF l) 0 := by simp [forkBody]
      rw [this, hb, hr, ← zeros_rep h]
    rw [Bool.eq_iff_iff]
    simp only [Bool.and_eq_true, decide_eq_true_eq, Bool.true_and, true_and]
    rw [hbd]
    constructor
    ·rintro ⟨⟨a1, a2, a3⟩, a4, a5, a6, a7⟩
     exact ⟨⟨a4, a6, a2, a3, a1⟩, a7⟩
    ·rintro ⟨⟨a4, a6, a2, a3, a1⟩, a7⟩
     exact ⟨⟨a1, a2, a3⟩, a4, hct, a6, a7⟩
  simp only [key]
  rcases headF kd pg lk ty bd with _ | _ <;> simp
end Go.Proofs.YtmmjckokjmpfpaaGreat

