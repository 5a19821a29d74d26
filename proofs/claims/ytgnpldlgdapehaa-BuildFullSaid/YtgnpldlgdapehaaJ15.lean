/-
  Texts that the main proof rests on, put together: Frame, FrameValid, Ref4May, Ref6May, Ref7May, CatPlain, FkPlain, CatParse, FkParse, FkMath, Its, FkBack, FramePut, FrameBdy, FramePutP, Ref4Put, Ref4Body, BuAhead, Ov, Ref9. No statement is proved here.
-/
import Derived.Test.YtgnpldlgdapehaaJ8
import Derived.Test.YtgnpldlgdapehaaJ10
import Derived.Test.YtgnpldlgdapehaaJ2
import Derived.Test.YtgnpldlgdapehaaJ6
import Derived.Deep.DrawnRows
import Derived.Deep.CutRange
import Derived.Deep.QuietTactic
import Derived.BigQuiet
import Derived.Lib.MinMax
import Derived.Laws.CopyRow
import Derived.Laws.IdiomCopy
import Derived.Laws.ResultCell
import Derived.Deep.WholeRow
import Derived.Deep.RegionHeld3
import Derived.Test.YtgnpldlgdapehaaJ14
import Derived.Test.YtgnpldlgdapehaaJ4
set_option linter.unusedVariables false
set_option linter.unusedSimpArgs false
namespace Go.Proofs.Ytgnpldlgdapehaa
open Go.RowKit
open Go.Lib
attribute [local go_sem ↓] Go.wp_at_zero Go.wp_at_succ

theorem good_nat {size : Int} (h : goodSize size = true) : ∃ n : Nat, size = n ∧ 128 ≤ n ∧ n ≤ 4096 ∧ n % 64 = 0 := by
 simp [goodSize] at h
 exact ⟨size.toNat, by omega, by omega, by omega, by omega⟩

theorem room_yes (size : Int) (w : World) (h : goodSize size = true) :
  Calls Try.prog 46 #[.int .i64 size] w fun e w' => e = .returned (.int .i64 (size - 24)) ∧ w = w' := by
 obtain ⟨n, rfl, h1, h2, h3⟩ := good_nat h
 go_enter Try.func46, Try.ntmps46
 go_wp2_with (go_at_call 39; refine (dgood_any _ _).mono ?_; rw [h]; rintro e w' ⟨rfl, rfl⟩)
 go_ret
 exact ⟨rfl, rfl⟩
theorem room_no (size : Int) (w : World) (h : goodSize size = false) :
  Calls Try.prog 46 #[.int .i64 size] w fun e w' => e = .returned (.int .i64 0) ∧ w = w' := by
 go_enter Try.func46, Try.ntmps46
 go_wp2_with (go_at_call 39; refine (dgood_any _ _).mono ?_; rw [h]; rintro e w' ⟨rfl, rfl⟩)
 go_ret
 exact ⟨rfl, rfl⟩
end Go.Proofs.Ytgnpldlgdapehaa

namespace Go.Proofs.Ytgnpldlgdapehaa
open Go.RowKit
open Go.Lib
attribute [local go_sem ↓] Go.wp_at_zero Go.wp_at_succ

theorem dgood_is (n : Int) (b : Bool) (w : World) (h : goodSize n = b) : Calls Try.prog 39 #[.int .i64 n] w fun e w' => e = .returned (.bool b) ∧ w' = w :=
 (dgood_any n w).mono fun _ _ ⟨a, b⟩ => ⟨by rw [← h]; exact a, b.symm⟩
theorem room_is (n : Int) (w : World) (h : goodSize n = true) : Calls Try.prog 46 #[.int .i64 n] w fun e w' => e = .returned (.int .i64 (n - 24)) ∧ w' = w :=
 (room_yes n w h).mono fun _ _ ⟨a, b⟩ => ⟨a, b.symm⟩
end Go.Proofs.Ytgnpldlgdapehaa

namespace Go.Proofs.Ytgnpldlgdapehaa
open Go.RowKit
open Go.Lib
attribute [local go_sem ↓] Go.wp_at_zero Go.wp_at_succ

theorem rgood_any (n : Int) (w : World) :
  Calls Try.prog 33 #[.int .i64 n] w fun e w' => e = .returned (.bool (goodSize n)) ∧ w = w' := by
 by_cases h1 : 128 ≤ n
 ·by_cases h2 : n ≤ 4096
  ·have h0 : 0 ≤ n := by omega
   by_cases h3 : n % 64 = 0
   ·have h4 : (n % 64 == 0) = true := by simpa using h3
    have HG := Lib.hid (show goodSize n = true by simp [goodSize, h1, h2, h3])
    clear h3
    go_enter Try.func33, Try.ntmps33
    go_wp2
    go_ret
    exact ⟨by rw [HG.out]; rfl, rfl⟩
   ·have h4 : (n % 64 == 0) = false := by simpa using h3
    have HG := Lib.hid (show goodSize n = false by simp [goodSize, h1, h2, h4])
    clear h3
    go_enter Try.func33, Try.ntmps33
    go_wp2
    go_ret
    exact ⟨by rw [HG.out]; rfl, rfl⟩
  ·have HG := Lib.hid (show goodSize n = false by simp [goodSize, h2])
   go_enter Try.func33, Try.ntmps33
   go_wp2
   go_ret
   exact ⟨by rw [HG.out]; rfl, rfl⟩
 ·have HG := Lib.hid (show goodSize n = false by simp [goodSize, h1])
  go_enter Try.func33, Try.ntmps33
  go_wp2
  go_ret
  exact ⟨by rw [HG.out]; rfl, rfl⟩

theorem rroom_yes (size : Int) (w : World) (h : goodSize size = true) :
  Calls Try.prog 21 #[.int .i64 size] w fun e w' => e = .returned (.int .i64 (size - 24)) ∧ w = w' := by
 obtain ⟨n, rfl, h1, h2, h3⟩ := good_nat h
 go_enter Try.func21, Try.ntmps21
 go_wp2_with (go_at_call 33; refine (rgood_any _ _).mono ?_; rw [h]; rintro e w' ⟨rfl, rfl⟩)
 go_ret
 exact ⟨rfl, rfl⟩
theorem rroom_is (n : Int) (w : World) (h : goodSize n = true) : Calls Try.prog 21 #[.int .i64 n] w fun e w' => e = .returned (.int .i64 (n - 24)) ∧ w' = w :=
 (rroom_yes n w h).mono fun _ _ ⟨a, b⟩ => ⟨a, b.symm⟩
end Go.Proofs.Ytgnpldlgdapehaa

namespace Go.Proofs.Ytgnpldlgdapehaa
open Go.RowKit
open Go.Lib hiding intOf
attribute [local go_sem ↓] Go.wp_at_zero Go.wp_at_succ

def numB (n : Nat) : Bool := decide (2 ≤ n ∧ n ≤ 2147483647)
end Go.Proofs.Ytgnpldlgdapehaa

namespace Go.Proofs.Ytgnpldlgdapehaa
open Go.RowKit
open Go.Lib hiding intOf
attribute [local go_sem ↓] Go.wp_at_zero Go.wp_at_succ

def keyF (s : ByteArray) : Bool := decide (s.size ≤ 40)
theorem less_tot7 : ∀ (a b : List UInt8), Op.bytesLess a b = false → Op.bytesLess b a = false → a = b
 | [], [], _, _ => rfl
 | [], b :: y, h, _ => by simp [Op.bytesLess] at h
 | a :: x, [], _, h => by simp [Op.bytesLess] at h
 | a :: x, b :: y, h1, h2 => by
  simp only [Op.bytesLess, Bool.or_eq_false_iff, Bool.and_eq_false_iff, decide_eq_false_iff_not, beq_eq_false_iff_ne] at h1 h2
  have hab : a = b := by
   have e1 := h1.1
   have e2 := h2.1
   rw [UInt8.lt_iff_toNat_lt] at e1 e2
   exact UInt8.toNat_inj.1 (by omega)
  subst hab
  rw [less_tot7 x y (by simpa using h1.2) (by simpa using h2.2)]
theorem leq_not (a b : List UInt8) : (Op.bytesLess a b || a == b) = !Op.bytesLess b a := by
 rcases h1 : Op.bytesLess a b with _ | _
 ·rcases h2 : Op.bytesLess b a with _ | _
  ·rw [less_tot7 a b h1 h2]; simp
  ·have h3 : (a == b) = false := by
    rw [Bool.eq_false_iff]
    intro he
    rw [beq_iff_eq] at he
    rw [he, bytesLess_eq, decide_eq_true_eq] at h2
    exact List.lt_irrefl _ h2
   rw [h3]; rfl
 ·rcases h2 : Op.bytesLess b a with _ | _
  ·rfl
  ·rw [bytesLess_eq, decide_eq_true_eq] at h1 h2
   exact absurd (List.lt_trans h1 h2) (List.lt_irrefl _)
theorem rkey_any (s : ByteArray) (w : World) : Calls Try.prog 26 #[.string s] w fun e w' => e = .returned (.bool (keyF s)) ∧ w' = w := by
 by_cases h1 : s.size ≤ 40
 ·have h1' : (s.size : Int) ≤ 40 := by omega
  have HE := Lib.hid (show keyF s = true by simp [keyF, h1])
  go_enter Try.func26, Try.ntmps26
  go_wp2
  go_ret
  exact ⟨by rw [HE.out]; rfl, rfl⟩
 ·have h1' : ¬ (s.size : Int) ≤ 40 := by omega
  have HE := Lib.hid (show keyF s = false by simp [keyF, h1])
  go_enter Try.func26, Try.ntmps26
  go_wp2
  go_ret
  exact ⟨by rw [HE.out]; rfl, rfl⟩
end Go.Proofs.Ytgnpldlgdapehaa

namespace Go.Proofs.Ytgnpldlgdapehaa
open Go.RowKit
open Go.Lib hiding intOf

end Go.Proofs.Ytgnpldlgdapehaa

namespace Go.Proofs.Ytgnpldlgdapehaa
open Go.RowKit
open Go.Lib hiding intOf

end Go.Proofs.Ytgnpldlgdapehaa

namespace Go.Proofs.Ytgnpldlgdapehaa
open Go.RowKit
open Go.Lib hiding intOf

def fits (b : Bk) : Prop := b.nm.size < 256 ∧ b.rt < 4294967296 ∧ 0 ≤ b.ks ∧ b.ks < 4294967296
end Go.Proofs.Ytgnpldlgdapehaa

namespace Go.Proofs.Ytgnpldlgdapehaa
open Go.RowKit
open Go.Lib hiding intOf

end Go.Proofs.Ytgnpldlgdapehaa

namespace Go.Proofs.Ytgnpldlgdapehaa
open Go.RowKit
open Go.Lib hiding intOf

end Go.Proofs.Ytgnpldlgdapehaa

namespace Go.Proofs.Ytgnpldlgdapehaa
open Go.RowKit
open Go.Lib hiding intOf

def okIt (b : It) : Bool := if b.ov then keyF b.ky && (decide (b.vl.size = 0) && (decide (1 ≤ b.ln) && (decide (b.ln ≤ 4096) && numB b.hd))) else keyF b.ky && (decide (b.vl.size ≤ 255) && (decide (b.ln = 0) && decide (b.hd = 0)))
def okAtI (l : List It) (i : Nat) : Bool :=
 match l[i]? with
 | none => false
 | some b => okIt b && (decide (i = 0) || match l[i - 1]? with | some a => Op.bytesLess a.ky.toList b.ky.toList | none => true)
def allOkI (l : List It) : Bool := (List.range l.length).all (okAtI l)
def mayI (l : List It) : Bool := allOkI l && decide (0 < l.length)
theorem allOkI_no {l : List It} {k : Nat} (hk : k < l.length) (h : okAtI l k = false) : allOkI l = false := by
 rw [Bool.eq_false_iff]
 intro ha
 rw [allOkI, List.all_eq_true] at ha
 rw [ha k (List.mem_range.2 hk)] at h
 cases h
theorem allOkI_yes {l : List It} (h : ∀ j, j < l.length → okAtI l j = true) : allOkI l = true := by
 rw [allOkI, List.all_eq_true]
 exact fun j hj => h j (List.mem_range.1 hj)
theorem okAtI_of {l : List It} {k : Nat} {x : It} (hx : l[k]? = some x) : okAtI l k = (okIt x && (decide (k = 0) || match l[k - 1]? with | some a => Op.bytesLess a.ky.toList x.ky.toList | none => true)) := by
 rw [okAtI, hx]
def oneI (b : It) : Nat := if b.ov then 10 + b.ky.size else 3 + b.ky.size + b.vl.size
def sizeI : List It → Nat
 | [] => 0
 | b :: l => oneI b + sizeI l
theorem sizeI_snoc (l : List It) (b : It) : sizeI (l ++ [b]) = sizeI l + oneI b := by
 induction l with
 | nil => simp [sizeI]
 | cons c l ih => simp only [List.cons_append, sizeI, ih]; omega
theorem sizeI_take_succ {l : List It} {k : Nat} {x : It} (h : l[k]? = some x) : sizeI (l.take (k + 1)) = sizeI (l.take k) + oneI x := by
 obtain ⟨hk, rfl⟩ := List.getElem?_eq_some_iff.1 h
 rw [List.take_succ_eq_append_getElem hk, sizeI_snoc]
theorem sizeI_take_le (l : List It) : ∀ k, sizeI (l.take k) ≤ sizeI l := by
 intro k
 induction l generalizing k with
 | nil => simp [sizeI]
 | cons c l ih => cases k with
  | zero => simp [sizeI]
  | succ k => simp only [List.take_succ_cons, sizeI]; have := ih k; omega
theorem three_oneI (b : It) : 3 ≤ oneI b := by unfold oneI; split <;> omega
theorem three_le (l : List It) : l.length * 3 ≤ sizeI l := by
 induction l with
 | nil => simp [sizeI]
 | cons b l ih => simp only [sizeI, List.length_cons]; have := three_oneI b; omega
theorem okIt_one {b : It} (h : okIt b = true) : oneI b ≤ 298 := by
 unfold okIt at h
 unfold oneI
 split at h <;> rename_i hb <;> simp only [keyF, Bool.and_eq_true, decide_eq_true_eq] at h
 ·rw [if_pos hb]; omega
 ·rw [if_neg hb]; omega
theorem okAtI_ok {l : List It} {k : Nat} {x : It} (hx : l[k]? = some x) (h : okAtI l k = true) : okIt x = true := by
 rw [okAtI_of hx, Bool.and_eq_true] at h
 exact h.1
theorem allOkI_at {l : List It} (h : allOkI l = true) {k : Nat} (hk : k < l.length) : okAtI l k = true := by
 rw [allOkI, List.all_eq_true] at h
 exact h k (List.mem_range.2 hk)
theorem allOkI_ok {l : List It} (h : allOkI l = true) {k : Nat} {x : It} (hx : l[k]? = some x) : okIt x = true := okAtI_ok hx (allOkI_at h (List.getElem?_eq_some_iff.1 hx).1)
theorem sizeI_ok {l : List It} (h : allOkI l = true) : ∀ k, k ≤ l.length → sizeI (l.take k) ≤ 298 * k
 | 0, _ => by simp [sizeI]
 | k + 1, hk => by
  have hx : l[k]? = some l[k] := List.getElem?_eq_getElem (by omega)
  have ih := sizeI_ok h k (by omega)
  have hn := okIt_one (allOkI_ok h hx)
  rw [sizeI_take_succ hx]
  omega
theorem sizeI_all {l : List It} (h : allOkI l = true) : sizeI l ≤ 298 * l.length := by
 have := sizeI_ok h l.length (Nat.le_refl _)
 rwa [List.take_length] at this
end Go.Proofs.Ytgnpldlgdapehaa

namespace Go.Proofs.Ytgnpldlgdapehaa
open Go.RowKit
open Go.Lib hiding intOf

end Go.Proofs.Ytgnpldlgdapehaa

namespace Go.Proofs.Ytgnpldlgdapehaa
open Go.RowKit
open Go.Lib
attribute [local go_sem ↓] Go.wp_at_zero Go.wp_at_succ

theorem reads_nil (w : World) : Reads w w.heap.size 1 none 0 (bcells []) := Reads.none_
theorem put_reads (A : Option Addr) (n c num k : Nat) (l : List UInt8) (w : World) (hr : Reads w w.heap.size 1 A n (bcells l)) (hn : n + 8 ≤ 140737488355328) (h1 : 1 ≤ k) (h2 : k ≤ 8) :
  Calls Try.prog 93 #[.slice A n c, .int .u64 num, .int .i64 k] w fun e w' => ∃ A' c', e = .returned (.slice A' (n + k) c') ∧ Reads w' w'.heap.size 1 A' (n + k) (bcells (l ++ Go.leBytes k num)) ∧ Below w.heap.size w w' :=
 (put_yes A n c num k l w hr hn h1 h2).mono fun _ _ ⟨v, he, ho, hb⟩ => by
  obtain ⟨A', c', rfl, _⟩ := own_form ho
  exact ⟨A', c', he, Reads.of_own ho, hb⟩

end Go.Proofs.Ytgnpldlgdapehaa

namespace Go.Proofs.Ytgnpldlgdapehaa
open Go.RowKit
open Go.Lib

theorem fbody_ok (size : Nat) (A : Option Addr) (m c : Nat) (l : List UInt8) (w : World) (hg : goodSize size = true) (hr : Reads w w.heap.size 1 A m (bcells l)) (hm : m ≤ size - 24) :
  Calls Try.prog 76 #[.int .i64 size, .slice A m c] w fun e w' => e = .returned (.tuple #[.string ⟨(l ++ List.replicate (size - 24 - m) 0).toArray⟩, .int .i64 0]) ∧ Below w.heap.size w w' := by
 have hp := good_pos hg
 have hl : l.length = m := by have := hr.1; rw [bcells_length] at this; omega
 obtain ⟨r, hrm⟩ : ∃ r, r = size - 24 := ⟨_, rfl⟩
 have hR : ∀ w : World, Calls Try.prog 46 #[.int .i64 size] w fun e w' => e = .returned (.int .i64 (r : Int)) ∧ w' = w := fun w => by
  have := room_is size w hg
  rw [show (size : Int) - 24 = (r : Int) by omega] at this
  exact this
 have q : decide (r < m) = false := by simp; omega
 obtain ⟨i0, hi0, hz0, hz1, hz2⟩ := info_parts infoU8
 have hmk := run_make_bytes (P := Try.prog) 118 5 Try.underlying118 infoU8 r (by omega) w
 obtain ⟨w1, hw1⟩ : ∃ w1, w1 = w.alloc (.cells (madeCells #[.int .u8 0] r) 5) := ⟨_, rfl⟩
 rw [← hw1] at hmk
 have b1 : Blk w1 w.heap.size 5 (madeCells #[.int .u8 0] r) := by rw [hw1]; exact Blk.new _ _ _
 have hb1 : Below w.heap.size w w1 := by rw [hw1]; exact (Below.refl _ _).alloc (Nat.le_refl _) _
 have hr1 : Reads w1 w.heap.size 1 A m (bcells l) := hr.below hb1
 have hmc : (madeCells #[.int .u8 0] r).toList = List.replicate r (Value.int .u8 0) := toList_madeCells_one _ _
 obtain ⟨res, hres⟩ : ∃ res, res = l ++ List.replicate (r - m) (0 : UInt8) := ⟨_, rfl⟩
 rw [← hrm, ← hres]
 have hresl : res.length = r := by rw [hres, List.length_append, List.length_replicate]; omega
 obtain ⟨w2, hcp, hr2, hb2⟩ : ∃ w2, (Builtin.copy_ #[118, 118] 3 #[.slice (some ⟨w.heap.size, 0, none⟩) r r, .slice A m c]).run Try.prog w1 = .ok (.int .i64 (m : Int)) w2 ∧ Reads w2 w2.heap.size 1 (some ⟨w.heap.size, 0, none⟩) r (bcells res) ∧ Below w.heap.size w w2 := by
  rcases Nat.eq_zero_or_pos m with h0 | h0
  ·subst h0
   have hl0 : l = [] := List.eq_nil_of_length_eq_zero hl
   subst hl0
   have hcp := run_copy_none (P := Try.prog) w1 118 118 3 5 (some ⟨w.heap.size, 0, none⟩) A r r 0 c Try.underlying118 (by rw [hi0]; simp [hz1]) (Nat.zero_min r)
   refine ⟨w1, hcp, ?_, hb1⟩
   rw [hres, hw1, List.nil_append, Nat.sub_zero]
   have h3 := (MRow.of_made w 5 r).reads
   rw [List.length_replicate] at h3
   exact h3
  ·obtain ⟨ad, rfl, hab, hat⟩ := hr1.2 h0
   have hcp := run_copy_row (P := Try.prog) w1 118 118 3 5 w.heap.size 0 r r ad m c (madeCells #[.int .u8 0] r) 5 (bcells l) Try.underlying118 (by rw [hi0]; simp [hz1]) b1
    (by rw [bcells_length, hl]; exact (Nat.min_eq_left (by omega)).symm) hat (by rw [size_madeCells, bcells_length]; omega) (bcells_one l)
   rw [bcells_length, hl] at hcp
   refine ⟨_, hcp, ?_, below_setRow hb1 (Nat.le_refl _) _⟩
   have h3 : ((madeCells #[.int .u8 0] r).toList.take 0 ++ bcells l ++ (madeCells #[.int .u8 0] r).toList.drop (0 + m)) = bcells res := by
    rw [hmc, hres, bcells_append]
    simp [bcells]
   rw [h3]
   have hblk := setRow_heap w1 w.heap.size _ (bcells res).toArray _ _ b1
   refine ⟨by rw [bcells_length, hresl, Nat.mul_one], fun _ => ⟨_, rfl, (by have := b1.lt; rw [setRow_size]; exact this), fun j u hu => ?_⟩⟩
   have e : (⟨w.heap.size, 0, none⟩ : Addr).add j = ⟨w.heap.size, j, none⟩ := by unfold Addr.add; split <;> simp_all
   rw [e, cell_of_row _ _ j _ _ _ hblk]
   simpa using hu
 have hcv := run_string_reads w2 118 9 5 r Try.underlying118 Try.underlying5 Try.underlying9 hr2
 clear hr hm hp hl hrm hi0 hz0 hz1 hz2 b1 hb1 hr1 hmc hres hresl hr2 hw1
 go_enter Try.func76, Try.ntmps76
 go_wp2_with fail
 refine (dgood_is size _ _ hg).mono ?_
 rintro e w' ⟨rfl, rfl⟩
 go_wp2_with fail
 refine (hR _).mono ?_
 rintro e w' ⟨rfl, rfl⟩
 go_wp2_with fail
 refine (hR _).mono ?_
 rintro e w' ⟨rfl, rfl⟩
 go_wp2_with fail
 go_ret2
 exact ⟨rfl, hb2⟩
end Go.Proofs.Ytgnpldlgdapehaa

namespace Go.Proofs.Ytgnpldlgdapehaa
open Go.RowKit
open Go.Lib
attribute [local go_sem ↓] Go.wp_at_zero Go.wp_at_succ

end Go.Proofs.Ytgnpldlgdapehaa

namespace Go.Proofs.Ytgnpldlgdapehaa
open Go.RowKit
open Go.Lib
attribute [local go_sem ↓] Go.wp_at_zero Go.wp_at_succ

end Go.Proofs.Ytgnpldlgdapehaa

namespace Go.Proofs.Ytgnpldlgdapehaa
open Go.RowKit
open Go.Lib
attribute [local go_sem ↓] Go.wp_at_zero Go.wp_at_succ

end Go.Proofs.Ytgnpldlgdapehaa

namespace Go.Proofs.Ytgnpldlgdapehaa
open Go.RowKit

def ahead {α : Type} (P : List (List α)) (n : Nat) : Nat := (P.take n).flatten.length
theorem sizeI_sub {a b : List It} (h : a.Sublist b) : sizeI a ≤ sizeI b := by
 induction h with
 | slnil => exact Nat.le_refl _
 | cons x _ ih => simp only [sizeI]; omega
 | cons_cons x _ ih => simp only [sizeI]; omega
theorem ahead_succ {α : Type} {P : List (List α)} {n : Nat} (h : n < P.length) : ahead P (n + 1) = ahead P n + P[n].length := by
 unfold ahead
 rw [List.take_succ_eq_append_getElem h, List.flatten_append, List.length_append]
 simp
theorem ahead_all {α : Type} {P : List (List α)} {n : Nat} (h : P.length ≤ n) : ahead P n = P.flatten.length := by
 unfold ahead
 rw [List.take_of_length_le h]
theorem Greedy.drop {α : Type} {sz : List α → Nat} {room : Nat} : ∀ {P : List (List α)} {n : Nat}, Greedy sz room P → Greedy sz room (P.drop n)
 | [], n, h => by simp; exact trivial
 | p :: t, 0, h => h
 | p :: t, n + 1, h => Greedy.drop (P := t) (n := n) h.2.2.2
theorem Greedy.count {α : Type} {sz : List α → Nat} {room : Nat} : ∀ {P : List (List α)}, Greedy sz room P → P.length ≤ P.flatten.length
 | [], _ => Nat.le_refl _
 | p :: t, h => by
  have h1 := Greedy.count (P := t) h.2.2.2
  have h2 := List.length_pos_iff.2 h.1
  rw [List.flatten_cons, List.length_append, List.length_cons]
  omega
theorem flat_split {α : Type} {P : List (List α)} {n : Nat} : P.flatten = (P.take n).flatten ++ (P.drop n).flatten := by
 rw [← List.flatten_append, List.take_append_drop]
theorem ahead_step {P : List (List It)} {l : List It} {room n a k : Nat} (hg : Greedy sizeI room P) (hf : P.flatten = l) (ha : a ≤ ahead P n) (hk : k = 1 ∨ sizeI ((l.drop a).take k) ≤ room) (hl : a + k ≤ l.length) : a + k ≤ ahead P (n + 1) := by
 by_cases hn : n < P.length
 ·have hs := ahead_succ hn
  have hp : P[n] ≠ [] := hg.ne _ (List.getElem_mem hn)
  have hp0 : 0 < P[n].length := List.length_pos_iff.2 hp
  rcases hk with rfl | hk
  ·omega
  ·refine Nat.le_of_not_lt fun hlt => ?_
   have hd : P.drop n = P[n] :: P.drop (n + 1) := List.drop_eq_getElem_cons hn
   have hfl : l = (P.take n).flatten ++ (P[n] ++ (P.drop (n + 1)).flatten) := by
    rw [← hf, flat_split (n := n), hd, List.flatten_cons]
   have hlen : l.length = ahead P n + (P[n].length + (P.drop (n + 1)).flatten.length) := by
    rw [hfl]; simp [ahead]
   have hgd := Greedy.drop (n := n) hg
   rw [hd] at hgd
   cases hq : P.drop (n + 1) with
   | nil => rw [hq] at hlen; simp at hlen; omega
   | cons q s =>
    cases q with
    | nil => rw [hq] at hgd; exact absurd rfl hgd.2.2.2.1
    | cons x r =>
     have hbig := hgd.2.2.1 (x :: r) s x r hq rfl
     have hE : l.drop (ahead P n) = P[n] ++ (P.drop (n + 1)).flatten := by
      rw [hfl]; exact List.drop_left' rfl
     have htk : (l.drop (ahead P n)).take (P[n].length + 1) = P[n] ++ [x] := by
      rw [hE, hq]
      rw [List.flatten_cons, List.cons_append, List.take_append, List.take_of_length_le (by omega), show P[n].length + 1 - P[n].length = 1 by omega]
      rfl
     have h1 : ((l.drop a).take k).drop (ahead P n - a) = (l.drop (ahead P n)).take (k - (ahead P n - a)) := by
      rw [List.drop_take, List.drop_drop]
      congr 2
      omega
     have h2 : (P[n] ++ [x]).Sublist ((l.drop a).take k) := by
      refine List.Sublist.trans ?_ (List.drop_sublist (ahead P n - a) _)
      rw [h1, ← htk]
      exact List.take_sublist_take_left (by omega)
     have := sizeI_sub h2
     omega
 ·rw [ahead_all (by omega), hf]; exact hl
theorem ahead_end {P : List (List It)} {l : List It} {room n : Nat} (hg : Greedy sizeI room P) (hf : P.flatten = l) (ha : l.length ≤ ahead P n) : P.length ≤ n := by
 refine Nat.le_of_not_lt fun hn => ?_
 have hd : P.drop n = P[n] :: P.drop (n + 1) := List.drop_eq_getElem_cons hn
 have hp : P[n] ≠ [] := hg.ne _ (List.getElem_mem hn)
 have hp0 : 0 < P[n].length := List.length_pos_iff.2 hp
 have : l.length = ahead P n + (P[n].length + (P.drop (n + 1)).flatten.length) := by
  rw [← hf, flat_split (n := n), hd, List.flatten_cons, List.length_append, List.length_append]; rfl
 omega
theorem Greedy.next {P : List (List It)} {room i : Nat} {p q : List It} {x : It} (hg : Greedy sizeI room P) (hi : P[i]? = some p) (hj : P[i + 1]? = some q) (hx : q[0]? = some x) : room < sizeI p + oneI x := by
 obtain ⟨hi1, rfl⟩ := List.getElem?_eq_some_iff.1 hi
 obtain ⟨hj1, rfl⟩ := List.getElem?_eq_some_iff.1 hj
 have hgd := Greedy.drop (n := i) hg
 rw [List.drop_eq_getElem_cons hi1, List.drop_eq_getElem_cons hj1] at hgd
 cases hq : P[i + 1] with
 | nil => rw [hq] at hx; cases hx
 | cons y r =>
  rw [hq] at hx hgd
  injection hx with hx
  subst hx
  have := hgd.2.2.1 (y :: r) _ y r rfl rfl
  rwa [sizeI_snoc] at this
end Go.Proofs.Ytgnpldlgdapehaa

namespace Go.Proofs.Ytgnpldlgdapehaa
open Go.RowKit
open Go.Lib hiding intOf

def needN (size n : Int) : Nat := if goodSize size && decide (1 ≤ n) then (n.toNat - 1) / (size - 24).toNat + 1 else 0
end Go.Proofs.Ytgnpldlgdapehaa

namespace Go.Proofs.Ytgnpldlgdapehaa
open Go.RowKit
open Go.Lib hiding intOf
attribute [local go_sem ↓] Go.wp_at_zero Go.wp_at_succ

set_option maxRecDepth 100000 in
set_option maxHeartbeats 3200000 in
theorem rneed9_any (size n : Int) (w : World) (hn : n ≤ 9223372036854775807) : Calls Try.prog 25 #[.int .i64 size, .int .i64 n] w fun e w' => e = .returned (.int .i64 (needN size n)) ∧ w' = w := by
 have HG := fun w => rgood_any size w
 rcases hg : goodSize size with _ | _
 ·rw [hg] at HG
  have HE := Lib.hid (show ((needN size n : Nat) : Int) = 0 by rw [needN, hg]; rfl)
  clear hg
  go_enter Try.func25, Try.ntmps25
  go_wp2_with (go_at_call 33; refine (HG _).mono ?_; rintro e w' ⟨rfl, rfl⟩)
  go_ret
  exact ⟨by rw [HE.out]; rfl, rfl⟩
 rw [hg] at HG
 by_cases h1 : n < 1
 ·have HE := Lib.hid (show ((needN size n : Nat) : Int) = 0 by rw [needN, decide_eq_false (show ¬ 1 ≤ n by omega), Bool.and_false]; rfl)
  clear hg
  go_enter Try.func25, Try.ntmps25
  go_wp2_with (go_at_call 33; refine (HG _).mono ?_; rintro e w' ⟨rfl, rfl⟩)
  go_ret
  exact ⟨by rw [HE.out]; rfl, rfl⟩
 ·obtain ⟨z, rfl, hz1, hz2, _⟩ := good_nat hg
  obtain ⟨r, hr⟩ : ∃ r, r = z - 24 := ⟨_, rfl⟩
  have HM : ∀ w : World, Calls Try.prog 21 #[.int .i64 z] w fun e w' => e = .returned (.int .i64 (r : Int)) ∧ w' = w := fun w => by
   have h := rroom_is z w hg
   rwa [show (z : Int) - 24 = (r : Int) by omega] at h
  obtain ⟨m, hm⟩ : ∃ m : Nat, (m : Int) = n - 1 := ⟨(n - 1).toNat, by omega⟩
  obtain ⟨q, hq⟩ : ∃ q, q = m / r := ⟨_, rfl⟩
  have hqm : q ≤ m := by rw [hq]; exact Nat.div_le_self _ _
  have HE := Lib.hid (show ((needN z n : Nat) : Int) = (q : Int) + 1 by
   rw [needN, hg, decide_eq_true (show 1 ≤ n by omega), Bool.and_self, if_pos (by rfl), show n.toNat - 1 = m by omega, show ((z : Int) - 24).toNat = r by omega, ← hq]
   rfl)
  obtain rfl : n = (m : Int) + 1 := by omega
  have hr0 : ((r : Int) == 0) = false := by simp; omega
  have hr1 : ¬ (r : Int) = 0 := by omega
  have hdiv : (m : Int) / (r : Int) = (q : Int) := by rw [hq]; simp
  have hwq : wrap64 (q : Int) = (q : Int) := wrap64_nat q (by omega)
  have hwq1 : wrap64 ((q : Int) + 1) = (q : Int) + 1 := by unfold wrap64; omega
  have hwq2 : IntKind.i64.wrap ((q : Int) + 1) = (q : Int) + 1 := by rw [IntKind.wrap_i64]; omega
  have hwm : IntKind.i64.wrap (m : Int) = (m : Int) := by rw [IntKind.wrap_i64]; omega
  have hwm2 : wrap64 (m : Int) = (m : Int) := by unfold wrap64; omega
  have hm9 : ¬ (m : Int) + 1 < 1 := by omega
  clear hg hm hq hr hz1 hz2 hqm hn h1
  go_enter Try.func25, Try.ntmps25
  go_wp2_with (first | (go_at_call 33; refine (HG _).mono ?_; rintro e w' ⟨rfl, rfl⟩) | (go_at_call 21; refine (HM _).mono ?_; rintro e w' ⟨rfl, rfl⟩))
  go_ret
  exact ⟨by rw [HE.out]; rfl, rfl⟩
end Go.Proofs.Ytgnpldlgdapehaa

