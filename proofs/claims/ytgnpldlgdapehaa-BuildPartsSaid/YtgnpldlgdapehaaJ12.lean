/-
  Texts that the main proof rests on, put together: Frame, FrameValid, Ref4May, Ref6May, Ref7May, CatPlain, FkPlain, CatParse, FkParse, FkMath, Its, FkBack, FramePut, FrameBdy, FramePutP, Ref4Put, Ref4Body. No statement is proved here.
-/
import Derived.Test.YtgnpldlgdapehaaJ8
import Derived.Test.YtgnpldlgdapehaaJ3
import Derived.Test.YtgnpldlgdapehaaJ6
import Derived.Deep.DrawnRows
import Derived.Deep.CutRange
import Derived.Deep.QuietTactic
import Derived.BigQuiet
import Derived.Lib.MinMax
import Derived.Laws.CopyRow
import Derived.Laws.IdiomCopy
import Derived.Laws.ResultCell
import Derived.Deep.WholeRow
import Derived.Deep.RegionHeld3
import Derived.Test.YtgnpldlgdapehaaJ11
set_option linter.unusedVariables false
set_option linter.unusedSimpArgs false
namespace Go.Proofs.Ytgnpldlgdapehaa
open Go.RowKit
open Go.Lib
attribute [local go_sem ↓] Go.wp_at_zero Go.wp_at_succ

theorem good_nat {size : Int} (h : goodSize size = true) : ∃ n : Nat, size = n ∧ 128 ≤ n ∧ n ≤ 4096 ∧ n % 64 = 0 := by
 simp [goodSize] at h
 exact ⟨size.toNat, by omega, by omega, by omega, by omega⟩

theorem room_yes (size : Int) (w : World) (h : goodSize size = true) :
  Calls Try.prog 46 #[.int .i64 size] w fun e w' => e = .returned (.int .i64 (size - 24)) ∧ w = w' := by
 obtain ⟨n, rfl, h1, h2, h3⟩ := good_nat h
 go_enter Try.func46, Try.ntmps46
 go_wp2_with (go_at_call 39; refine (dgood_any _ _).mono ?_; rw [h]; rintro e w' ⟨rfl, rfl⟩)
 go_ret
 exact ⟨rfl, rfl⟩
theorem room_no (size : Int) (w : World) (h : goodSize size = false) :
  Calls Try.prog 46 #[.int .i64 size] w fun e w' => e = .returned (.int .i64 0) ∧ w = w' := by
 go_enter Try.func46, Try.ntmps46
 go_wp2_with (go_at_call 39; refine (dgood_any _ _).mono ?_; rw [h]; rintro e w' ⟨rfl, rfl⟩)
 go_ret
 exact ⟨rfl, rfl⟩
end Go.Proofs.Ytgnpldlgdapehaa

namespace Go.Proofs.Ytgnpldlgdapehaa
open Go.RowKit
open Go.Lib
attribute [local go_sem ↓] Go.wp_at_zero Go.wp_at_succ

theorem dgood_is (n : Int) (b : Bool) (w : World) (h : goodSize n = b) : Calls Try.prog 39 #[.int .i64 n] w fun e w' => e = .returned (.bool b) ∧ w' = w :=
 (dgood_any n w).mono fun _ _ ⟨a, b⟩ => ⟨by rw [← h]; exact a, b.symm⟩
theorem room_is (n : Int) (w : World) (h : goodSize n = true) : Calls Try.prog 46 #[.int .i64 n] w fun e w' => e = .returned (.int .i64 (n - 24)) ∧ w' = w :=
 (room_yes n w h).mono fun _ _ ⟨a, b⟩ => ⟨a, b.symm⟩
end Go.Proofs.Ytgnpldlgdapehaa

namespace Go.Proofs.Ytgnpldlgdapehaa
open Go.RowKit
open Go.Lib
attribute [local go_sem ↓] Go.wp_at_zero Go.wp_at_succ

theorem rgood_any (n : Int) (w : World) :
  Calls Try.prog 33 #[.int .i64 n] w fun e w' => e = .returned (.bool (goodSize n)) ∧ w = w' := by
 by_cases h1 : 128 ≤ n
 ·by_cases h2 : n ≤ 4096
  ·have h0 : 0 ≤ n := by omega
   by_cases h3 : n % 64 = 0
   ·have h4 : (n % 64 == 0) = true := by simpa using h3
    have HG := Lib.hid (show goodSize n = true by simp [goodSize, h1, h2, h3])
    clear h3
    go_enter Try.func33, Try.ntmps33
    go_wp2
    go_ret
    exact ⟨by rw [HG.out]; rfl, rfl⟩
   ·have h4 : (n % 64 == 0) = false := by simpa using h3
    have HG := Lib.hid (show goodSize n = false by simp [goodSize, h1, h2, h4])
    clear h3
    go_enter Try.func33, Try.ntmps33
    go_wp2
    go_ret
    exact ⟨by rw [HG.out]; rfl, rfl⟩
  ·have HG := Lib.hid (show goodSize n = false by simp [goodSize, h2])
   go_enter Try.func33, Try.ntmps33
   go_wp2
   go_ret
   exact ⟨by rw [HG.out]; rfl, rfl⟩
 ·have HG := Lib.hid (show goodSize n = false by simp [goodSize, h1])
  go_enter Try.func33, Try.ntmps33
  go_wp2
  go_ret
  exact ⟨by rw [HG.out]; rfl, rfl⟩

theorem rroom_yes (size : Int) (w : World) (h : goodSize size = true) :
  Calls Try.prog 21 #[.int .i64 size] w fun e w' => e = .returned (.int .i64 (size - 24)) ∧ w = w' := by
 obtain ⟨n, rfl, h1, h2, h3⟩ := good_nat h
 go_enter Try.func21, Try.ntmps21
 go_wp2_with (go_at_call 33; refine (rgood_any _ _).mono ?_; rw [h]; rintro e w' ⟨rfl, rfl⟩)
 go_ret
 exact ⟨rfl, rfl⟩
end Go.Proofs.Ytgnpldlgdapehaa

namespace Go.Proofs.Ytgnpldlgdapehaa
open Go.RowKit
open Go.Lib hiding intOf
attribute [local go_sem ↓] Go.wp_at_zero Go.wp_at_succ

def numB (n : Nat) : Bool := decide (2 ≤ n ∧ n ≤ 2147483647)
theorem rnumB_any (n : Nat) (w : World) : Calls Try.prog 56 #[.int .u32 n] w fun e w' => e = .returned (.bool (numB n)) ∧ w' = w := by
 by_cases h1 : 2 ≤ n
 ·have h1' : (2 : Int) ≤ n := by omega
  by_cases h2 : n ≤ 2147483647
  ·have h2' : (n : Int) ≤ 2147483647 := by omega
   have HE := Lib.hid (show numB n = true by simp [numB, h1, h2])
   go_enter Try.func56, Try.ntmps56
   go_wp2
   go_ret
   exact ⟨by rw [HE.out]; rfl, rfl⟩
  ·have h2' : ¬ (n : Int) ≤ 2147483647 := by omega
   have HE := Lib.hid (show numB n = false by simp [numB, h1, h2])
   go_enter Try.func56, Try.ntmps56
   go_wp2
   go_ret
   exact ⟨by rw [HE.out]; rfl, rfl⟩
 ·have h1' : ¬ (2 : Int) ≤ n := by omega
  have HE := Lib.hid (show numB n = false by simp [numB, h1])
  go_enter Try.func56, Try.ntmps56
  go_wp2
  go_ret
  exact ⟨by rw [HE.out]; rfl, rfl⟩
end Go.Proofs.Ytgnpldlgdapehaa

namespace Go.Proofs.Ytgnpldlgdapehaa
open Go.RowKit
open Go.Lib hiding intOf
attribute [local go_sem ↓] Go.wp_at_zero Go.wp_at_succ

def keyF (s : ByteArray) : Bool := decide (s.size ≤ 40)
def okFk (b : Fk) : Bool := keyF b.nm && numB b.rt
def okAtF (l : List Fk) (i : Nat) : Bool :=
 match l[i]? with
 | none => false
 | some b => okFk b && (decide (i = 0) || match l[i - 1]? with | some a => Op.bytesLess a.nm.toList b.nm.toList | none => true)
def allOkF (l : List Fk) : Bool := (List.range l.length).all (okAtF l)
def mayF (l : List Fk) : Bool := allOkF l && decide (0 < l.length)
theorem allOkF_no {l : List Fk} {k : Nat} (hk : k < l.length) (h : okAtF l k = false) : allOkF l = false := by
 rw [Bool.eq_false_iff]
 intro ha
 rw [allOkF, List.all_eq_true] at ha
 rw [ha k (List.mem_range.2 hk)] at h
 cases h
theorem allOkF_yes {l : List Fk} (h : ∀ j, j < l.length → okAtF l j = true) : allOkF l = true := by
 rw [allOkF, List.all_eq_true]
 exact fun j hj => h j (List.mem_range.1 hj)
theorem okAtF_of {l : List Fk} {k : Nat} {x : Fk} (hx : l[k]? = some x) : okAtF l k = (okFk x && (decide (k = 0) || match l[k - 1]? with | some a => Op.bytesLess a.nm.toList x.nm.toList | none => true)) := by
 rw [okAtF, hx]
def sizeF : List Fk → Nat
 | [] => 0
 | b :: l => 5 + b.nm.size + sizeF l
theorem sizeF_snoc (l : List Fk) (b : Fk) : sizeF (l ++ [b]) = sizeF l + (5 + b.nm.size) := by
 induction l with
 | nil => simp [sizeF]
 | cons c l ih => simp only [List.cons_append, sizeF, ih]; omega
theorem sizeF_take_succ {l : List Fk} {k : Nat} {x : Fk} (h : l[k]? = some x) : sizeF (l.take (k + 1)) = sizeF (l.take k) + (5 + x.nm.size) := by
 obtain ⟨hk, rfl⟩ := List.getElem?_eq_some_iff.1 h
 rw [List.take_succ_eq_append_getElem hk, sizeF_snoc]
theorem sizeF_take_le (l : List Fk) : ∀ k, sizeF (l.take k) ≤ sizeF l := by
 intro k
 induction l generalizing k with
 | nil => simp [sizeF]
 | cons c l ih => cases k with
  | zero => simp [sizeF]
  | succ k => simp only [List.take_succ_cons, sizeF]; have := ih k; omega
theorem five_le (l : List Fk) : l.length * 5 ≤ sizeF l := by
 induction l with
 | nil => simp [sizeF]
 | cons b l ih => simp only [sizeF, List.length_cons]; omega
theorem okAtF_name {l : List Fk} {k : Nat} {x : Fk} (hx : l[k]? = some x) (h : okAtF l k = true) : x.nm.size ≤ 40 := by
 rw [okAtF_of hx] at h
 simp only [okFk, keyF, Bool.and_eq_true, decide_eq_true_eq] at h
 exact h.1.1
theorem sizeF_ok {l : List Fk} : ∀ {k : Nat}, (∀ j, j < k → okAtF l j = true) → k ≤ l.length → sizeF (l.take k) ≤ 45 * k
 | 0, _, _ => by simp [sizeF]
 | k + 1, h, hk => by
  have hx : l[k]? = some l[k] := List.getElem?_eq_getElem (by omega)
  have ih := sizeF_ok (k := k) (fun j hj => h j (by omega)) (by omega)
  have hn := okAtF_name hx (h k (by omega))
  rw [sizeF_take_succ hx]
  omega
theorem less_tot7 : ∀ (a b : List UInt8), Op.bytesLess a b = false → Op.bytesLess b a = false → a = b
 | [], [], _, _ => rfl
 | [], b :: y, h, _ => by simp [Op.bytesLess] at h
 | a :: x, [], _, h => by simp [Op.bytesLess] at h
 | a :: x, b :: y, h1, h2 => by
  simp only [Op.bytesLess, Bool.or_eq_false_iff, Bool.and_eq_false_iff, decide_eq_false_iff_not, beq_eq_false_iff_ne] at h1 h2
  have hab : a = b := by
   have e1 := h1.1
   have e2 := h2.1
   rw [UInt8.lt_iff_toNat_lt] at e1 e2
   exact UInt8.toNat_inj.1 (by omega)
  subst hab
  rw [less_tot7 x y (by simpa using h1.2) (by simpa using h2.2)]
theorem leq_not (a b : List UInt8) : (Op.bytesLess a b || a == b) = !Op.bytesLess b a := by
 rcases h1 : Op.bytesLess a b with _ | _
 ·rcases h2 : Op.bytesLess b a with _ | _
  ·rw [less_tot7 a b h1 h2]; simp
  ·have h3 : (a == b) = false := by
    rw [Bool.eq_false_iff]
    intro he
    rw [beq_iff_eq] at he
    rw [he, bytesLess_eq, decide_eq_true_eq] at h2
    exact List.lt_irrefl _ h2
   rw [h3]; rfl
 ·rcases h2 : Op.bytesLess b a with _ | _
  ·rfl
  ·rw [bytesLess_eq, decide_eq_true_eq] at h1 h2
   exact absurd (List.lt_trans h1 h2) (List.lt_irrefl _)
theorem rkey_any (s : ByteArray) (w : World) : Calls Try.prog 26 #[.string s] w fun e w' => e = .returned (.bool (keyF s)) ∧ w' = w := by
 by_cases h1 : s.size ≤ 40
 ·have h1' : (s.size : Int) ≤ 40 := by omega
  have HE := Lib.hid (show keyF s = true by simp [keyF, h1])
  go_enter Try.func26, Try.ntmps26
  go_wp2
  go_ret
  exact ⟨by rw [HE.out]; rfl, rfl⟩
 ·have h1' : ¬ (s.size : Int) ≤ 40 := by omega
  have HE := Lib.hid (show keyF s = false by simp [keyF, h1])
  go_enter Try.func26, Try.ntmps26
  go_wp2
  go_ret
  exact ⟨by rw [HE.out]; rfl, rfl⟩
theorem rone7_any (b : Fk) (w : World) (hs : b.nm.size ≤ 9007199254740992) : Calls Try.prog 38 #[.agg #[.string b.nm, .int .u32 b.rt]] w fun e w' => e = .returned (.int .i64 (5 + (b.nm.size : Int))) ∧ Below w.heap.size w w' := by
 go_enter Try.func38, Try.ntmps38
 go_wp2
 go_ret
 exact ⟨rfl, (Below.refl _ _).alloc (Nat.le_refl _) _⟩
end Go.Proofs.Ytgnpldlgdapehaa

namespace Go.Proofs.Ytgnpldlgdapehaa
open Go.RowKit
open Go.Lib hiding intOf

end Go.Proofs.Ytgnpldlgdapehaa

namespace Go.Proofs.Ytgnpldlgdapehaa
open Go.RowKit
open Go.Lib hiding intOf

def Fk.bytes (b : Fk) : List UInt8 := Go.leBytes 1 b.nm.size ++ (b.nm.data.toList ++ Go.leBytes 4 b.rt)
def bytesF (l : List Fk) : List UInt8 := l.flatMap Fk.bytes
theorem bytesF_take_succ {l : List Fk} {k : Nat} {x : Fk} (h : l[k]? = some x) : bytesF (l.take (k + 1)) = bytesF (l.take k) ++ x.bytes := by
 obtain ⟨hk, rfl⟩ := List.getElem?_eq_some_iff.1 h
 rw [List.take_succ_eq_append_getElem hk]
 simp only [bytesF, List.flatMap_append, List.flatMap_cons, List.flatMap_nil, List.append_nil]
def forkBody (size : Nat) (l : List Fk) : ByteArray := ⟨(bytesF l ++ List.replicate (size - 24 - sizeF l) 0).toArray⟩
theorem allOkF_at {l : List Fk} (h : allOkF l = true) {k : Nat} (hk : k < l.length) : okAtF l k = true := by
 rw [allOkF, List.all_eq_true] at h
 exact h k (List.mem_range.2 hk)
theorem allOkF_ok {l : List Fk} (h : allOkF l = true) {k : Nat} {x : Fk} (hx : l[k]? = some x) : okFk x = true := by
 have := allOkF_at h (List.getElem?_eq_some_iff.1 hx).1
 rw [okAtF_of hx, Bool.and_eq_true] at this
 exact this.1
end Go.Proofs.Ytgnpldlgdapehaa

namespace Go.Proofs.Ytgnpldlgdapehaa
open Go.RowKit
open Go.Lib hiding intOf

def fits (b : Bk) : Prop := b.nm.size < 256 ∧ b.rt < 4294967296 ∧ 0 ≤ b.ks ∧ b.ks < 4294967296
end Go.Proofs.Ytgnpldlgdapehaa

namespace Go.Proofs.Ytgnpldlgdapehaa
open Go.RowKit
open Go.Lib hiding intOf

def mayP7 (size : Int) (n tx : Nat) (l : List Fk) : Bool := goodSize size && (mayF l && (decide ((sizeF l : Int) ≤ size - 24) && (numB n && decide (tx ≤ 4611686018427387904))))
theorem mayP7_parts {z n tx : Nat} {l : List Fk} (h : mayP7 z n tx l = true) : allOkF l = true ∧ 0 < l.length ∧ goodSize z = true ∧ (sizeF l ≤ z - 24 ∧ 24 ≤ z) ∧ (2 ≤ n ∧ n ≤ 2147483647) ∧ tx ≤ 4611686018427387904 := by
 simp only [mayP7, mayF, numB, Bool.and_eq_true, decide_eq_true_eq] at h
 obtain ⟨h1, ⟨h2, h3⟩, h4, h5, h6⟩ := h
 have := good_pos h1
 exact ⟨h2, h3, h1, by omega, h5, h6⟩
end Go.Proofs.Ytgnpldlgdapehaa

namespace Go.Proofs.Ytgnpldlgdapehaa
open Go.RowKit
open Go.Lib hiding intOf

end Go.Proofs.Ytgnpldlgdapehaa

namespace Go.Proofs.Ytgnpldlgdapehaa
open Go.RowKit
open Go.Lib hiding intOf

def okIt (b : It) : Bool := if b.ov then keyF b.ky && (decide (b.vl.size = 0) && (decide (1 ≤ b.ln) && (decide (b.ln ≤ 4096) && numB b.hd))) else keyF b.ky && (decide (b.vl.size ≤ 255) && (decide (b.ln = 0) && decide (b.hd = 0)))
def okAtI (l : List It) (i : Nat) : Bool :=
 match l[i]? with
 | none => false
 | some b => okIt b && (decide (i = 0) || match l[i - 1]? with | some a => Op.bytesLess a.ky.toList b.ky.toList | none => true)
def allOkI (l : List It) : Bool := (List.range l.length).all (okAtI l)
def mayI (l : List It) : Bool := allOkI l && decide (0 < l.length)
theorem allOkI_no {l : List It} {k : Nat} (hk : k < l.length) (h : okAtI l k = false) : allOkI l = false := by
 rw [Bool.eq_false_iff]
 intro ha
 rw [allOkI, List.all_eq_true] at ha
 rw [ha k (List.mem_range.2 hk)] at h
 cases h
theorem allOkI_yes {l : List It} (h : ∀ j, j < l.length → okAtI l j = true) : allOkI l = true := by
 rw [allOkI, List.all_eq_true]
 exact fun j hj => h j (List.mem_range.1 hj)
theorem okAtI_of {l : List It} {k : Nat} {x : It} (hx : l[k]? = some x) : okAtI l k = (okIt x && (decide (k = 0) || match l[k - 1]? with | some a => Op.bytesLess a.ky.toList x.ky.toList | none => true)) := by
 rw [okAtI, hx]
def oneI (b : It) : Nat := if b.ov then 10 + b.ky.size else 3 + b.ky.size + b.vl.size
def sizeI : List It → Nat
 | [] => 0
 | b :: l => oneI b + sizeI l
theorem sizeI_snoc (l : List It) (b : It) : sizeI (l ++ [b]) = sizeI l + oneI b := by
 induction l with
 | nil => simp [sizeI]
 | cons c l ih => simp only [List.cons_append, sizeI, ih]; omega
theorem sizeI_take_succ {l : List It} {k : Nat} {x : It} (h : l[k]? = some x) : sizeI (l.take (k + 1)) = sizeI (l.take k) + oneI x := by
 obtain ⟨hk, rfl⟩ := List.getElem?_eq_some_iff.1 h
 rw [List.take_succ_eq_append_getElem hk, sizeI_snoc]
theorem sizeI_take_le (l : List It) : ∀ k, sizeI (l.take k) ≤ sizeI l := by
 intro k
 induction l generalizing k with
 | nil => simp [sizeI]
 | cons c l ih => cases k with
  | zero => simp [sizeI]
  | succ k => simp only [List.take_succ_cons, sizeI]; have := ih k; omega
theorem three_oneI (b : It) : 3 ≤ oneI b := by unfold oneI; split <;> omega
theorem three_le (l : List It) : l.length * 3 ≤ sizeI l := by
 induction l with
 | nil => simp [sizeI]
 | cons b l ih => simp only [sizeI, List.length_cons]; have := three_oneI b; omega
theorem okIt_one {b : It} (h : okIt b = true) : oneI b ≤ 298 := by
 unfold okIt at h
 unfold oneI
 split at h <;> rename_i hb <;> simp only [keyF, Bool.and_eq_true, decide_eq_true_eq] at h
 ·rw [if_pos hb]; omega
 ·rw [if_neg hb]; omega
theorem okAtI_ok {l : List It} {k : Nat} {x : It} (hx : l[k]? = some x) (h : okAtI l k = true) : okIt x = true := by
 rw [okAtI_of hx, Bool.and_eq_true] at h
 exact h.1
theorem allOkI_at {l : List It} (h : allOkI l = true) {k : Nat} (hk : k < l.length) : okAtI l k = true := by
 rw [allOkI, List.all_eq_true] at h
 exact h k (List.mem_range.2 hk)
theorem allOkI_ok {l : List It} (h : allOkI l = true) {k : Nat} {x : It} (hx : l[k]? = some x) : okIt x = true := okAtI_ok hx (allOkI_at h (List.getElem?_eq_some_iff.1 hx).1)
theorem sizeI_ok {l : List It} (h : allOkI l = true) : ∀ k, k ≤ l.length → sizeI (l.take k) ≤ 298 * k
 | 0, _ => by simp [sizeI]
 | k + 1, hk => by
  have hx : l[k]? = some l[k] := List.getElem?_eq_getElem (by omega)
  have ih := sizeI_ok h k (by omega)
  have hn := okIt_one (allOkI_ok h hx)
  rw [sizeI_take_succ hx]
  omega
theorem sizeI_all {l : List It} (h : allOkI l = true) : sizeI l ≤ 298 * l.length := by
 have := sizeI_ok h l.length (Nat.le_refl _)
 rwa [List.take_length] at this
end Go.Proofs.Ytgnpldlgdapehaa

namespace Go.Proofs.Ytgnpldlgdapehaa
open Go.RowKit
open Go.Lib hiding intOf

end Go.Proofs.Ytgnpldlgdapehaa

namespace Go.Proofs.Ytgnpldlgdapehaa
open Go.RowKit
open Go.Lib
attribute [local go_sem ↓] Go.wp_at_zero Go.wp_at_succ

theorem reads_nil (w : World) : Reads w w.heap.size 1 none 0 (bcells []) := Reads.none_
theorem u64_nat (n : Nat) (h : n < 18446744073709551616) : IntKind.u64.wrap (n : Int) = (n : Int) := by rw [IntKind.wrap_u64]; omega

theorem put_reads (A : Option Addr) (n c num k : Nat) (l : List UInt8) (w : World) (hr : Reads w w.heap.size 1 A n (bcells l)) (hn : n + 8 ≤ 140737488355328) (h1 : 1 ≤ k) (h2 : k ≤ 8) :
  Calls Try.prog 93 #[.slice A n c, .int .u64 num, .int .i64 k] w fun e w' => ∃ A' c', e = .returned (.slice A' (n + k) c') ∧ Reads w' w'.heap.size 1 A' (n + k) (bcells (l ++ Go.leBytes k num)) ∧ Below w.heap.size w w' :=
 (put_yes A n c num k l w hr hn h1 h2).mono fun _ _ ⟨v, he, ho, hb⟩ => by
  obtain ⟨A', c', rfl, _⟩ := own_form ho
  exact ⟨A', c', he, Reads.of_own ho, hb⟩

end Go.Proofs.Ytgnpldlgdapehaa

namespace Go.Proofs.Ytgnpldlgdapehaa
open Go.RowKit
open Go.Lib

theorem fbody_ok (size : Nat) (A : Option Addr) (m c : Nat) (l : List UInt8) (w : World) (hg : goodSize size = true) (hr : Reads w w.heap.size 1 A m (bcells l)) (hm : m ≤ size - 24) :
  Calls Try.prog 76 #[.int .i64 size, .slice A m c] w fun e w' => e = .returned (.tuple #[.string ⟨(l ++ List.replicate (size - 24 - m) 0).toArray⟩, .int .i64 0]) ∧ Below w.heap.size w w' := by
 have hp := good_pos hg
 have hl : l.length = m := by have := hr.1; rw [bcells_length] at this; omega
 obtain ⟨r, hrm⟩ : ∃ r, r = size - 24 := ⟨_, rfl⟩
 have hR : ∀ w : World, Calls Try.prog 46 #[.int .i64 size] w fun e w' => e = .returned (.int .i64 (r : Int)) ∧ w' = w := fun w => by
  have := room_is size w hg
  rw [show (size : Int) - 24 = (r : Int) by omega] at this
  exact this
 have q : decide (r < m) = false := by simp; omega
 obtain ⟨i0, hi0, hz0, hz1, hz2⟩ := info_parts infoU8
 have hmk := run_make_bytes (P := Try.prog) 118 5 Try.underlying118 infoU8 r (by omega) w
 obtain ⟨w1, hw1⟩ : ∃ w1, w1 = w.alloc (.cells (madeCells #[.int .u8 0] r) 5) := ⟨_, rfl⟩
 rw [← hw1] at hmk
 have b1 : Blk w1 w.heap.size 5 (madeCells #[.int .u8 0] r) := by rw [hw1]; exact Blk.new _ _ _
 have hb1 : Below w.heap.size w w1 := by rw [hw1]; exact (Below.refl _ _).alloc (Nat.le_refl _) _
 have hr1 : Reads w1 w.heap.size 1 A m (bcells l) := hr.below hb1
 have hmc : (madeCells #[.int .u8 0] r).toList = List.replicate r (Value.int .u8 0) := toList_madeCells_one _ _
 obtain ⟨res, hres⟩ : ∃ res, res = l ++ List.replicate (r - m) (0 : UInt8) := ⟨_, rfl⟩
 rw [← hrm, ← hres]
 have hresl : res.length = r := by rw [hres, List.length_append, List.length_replicate]; omega
 obtain ⟨w2, hcp, hr2, hb2⟩ : ∃ w2, (Builtin.copy_ #[118, 118] 3 #[.slice (some ⟨w.heap.size, 0, none⟩) r r, .slice A m c]).run Try.prog w1 = .ok (.int .i64 (m : Int)) w2 ∧ Reads w2 w2.heap.size 1 (some ⟨w.heap.size, 0, none⟩) r (bcells res) ∧ Below w.heap.size w w2 := by
  rcases Nat.eq_zero_or_pos m with h0 | h0
  ·subst h0
   have hl0 : l = [] := List.eq_nil_of_length_eq_zero hl
   subst hl0
   have hcp := run_copy_none (P := Try.prog) w1 118 118 3 5 (some ⟨w.heap.size, 0, none⟩) A r r 0 c Try.underlying118 (by rw [hi0]; simp [hz1]) (Nat.zero_min r)
   refine ⟨w1, hcp, ?_, hb1⟩
   rw [hres, hw1, List.nil_append, Nat.sub_zero]
   have h3 := (MRow.of_made w 5 r).reads
   rw [List.length_replicate] at h3
   exact h3
  ·obtain ⟨ad, rfl, hab, hat⟩ := hr1.2 h0
   have hcp := run_copy_row (P := Try.prog) w1 118 118 3 5 w.heap.size 0 r r ad m c (madeCells #[.int .u8 0] r) 5 (bcells l) Try.underlying118 (by rw [hi0]; simp [hz1]) b1
    (by rw [bcells_length, hl]; exact (Nat.min_eq_left (by omega)).symm) hat (by rw [size_madeCells, bcells_length]; omega) (bcells_one l)
   rw [bcells_length, hl] at hcp
   refine ⟨_, hcp, ?_, below_setRow hb1 (Nat.le_refl _) _⟩
   have h3 : ((madeCells #[.int .u8 0] r).toList.take 0 ++ bcells l ++ (madeCells #[.int .u8 0] r).toList.drop (0 + m)) = bcells res := by
    rw [hmc, hres, bcells_append]
    simp [bcells]
   rw [h3]
   have hblk := setRow_heap w1 w.heap.size _ (bcells res).toArray _ _ b1
   refine ⟨by rw [bcells_length, hresl, Nat.mul_one], fun _ => ⟨_, rfl, (by have := b1.lt; rw [setRow_size]; exact this), fun j u hu => ?_⟩⟩
   have e : (⟨w.heap.size, 0, none⟩ : Addr).add j = ⟨w.heap.size, j, none⟩ := by unfold Addr.add; split <;> simp_all
   rw [e, cell_of_row _ _ j _ _ _ hblk]
   simpa using hu
 have hcv := run_string_reads w2 118 9 5 r Try.underlying118 Try.underlying5 Try.underlying9 hr2
 clear hr hm hp hl hrm hi0 hz0 hz1 hz2 b1 hb1 hr1 hmc hres hresl hr2 hw1
 go_enter Try.func76, Try.ntmps76
 go_wp2_with fail
 refine (dgood_is size _ _ hg).mono ?_
 rintro e w' ⟨rfl, rfl⟩
 go_wp2_with fail
 refine (hR _).mono ?_
 rintro e w' ⟨rfl, rfl⟩
 go_wp2_with fail
 refine (hR _).mono ?_
 rintro e w' ⟨rfl, rfl⟩
 go_wp2_with fail
 go_ret2
 exact ⟨rfl, hb2⟩
end Go.Proofs.Ytgnpldlgdapehaa

namespace Go.Proofs.Ytgnpldlgdapehaa
open Go.RowKit
open Go.Lib
attribute [local go_sem ↓] Go.wp_at_zero Go.wp_at_succ

end Go.Proofs.Ytgnpldlgdapehaa

namespace Go.Proofs.Ytgnpldlgdapehaa
open Go.RowKit
open Go.Lib
attribute [local go_sem ↓] Go.wp_at_zero Go.wp_at_succ

end Go.Proofs.Ytgnpldlgdapehaa

namespace Go.Proofs.Ytgnpldlgdapehaa
open Go.RowKit
open Go.Lib
attribute [local go_sem ↓] Go.wp_at_zero Go.wp_at_succ

end Go.Proofs.Ytgnpldlgdapehaa

