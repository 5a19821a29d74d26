/-
  Texts that the main proof rests on, put together: Lay, OvMath, OvMath3, FnMath, Ref1, Ref4Put. No statement is proved here.
-/
import Derived.Test.YtmmjckokjmpfpaaGreatJ9
import Derived.Test.YtmmjckokjmpfpaaGreatJ3
import Derived.Test.YtmmjckokjmpfpaaGreatJ10
import Derived.Test.YtmmjckokjmpfpaaGreatJ2
import Derived.Test.YtmmjckokjmpfpaaGreatJ4
set_option linter.unusedVariables false
set_option linter.unusedSimpArgs false
namespace Go.Proofs.YtmmjckokjmpfpaaGreat
open Go.RowKit
open Go.Lib hiding intOf

def pieceL (z n : Nat) (img : List UInt8) : List UInt8 := (img.drop (n * z)).take z
theorem pieceL_write (size p c n : Nat) (b img : List UInt8) (hl : img.length = c * size) (hb : b.length = size) (hn : n < max c (p + 1)) :
  pieceL size n (bWrite size p b img) = if n = p then b else if n < c then pieceL size n img else List.replicate size 0 := by
 obtain ⟨E, hE⟩ : ∃ E, E = img ++ List.replicate (p * size + size - img.length) (0 : UInt8) := ⟨_, rfl⟩
 have hEl : p * size + size ≤ E.length := by rw [hE, List.length_append, List.length_replicate]; omega
 have hT : (E.take (p * size)).length = p * size := by rw [List.length_take]; omega
 unfold bWrite pieceL
 rw [← hE]
 rcases Nat.lt_trichotomy n p with h | h | h
 ·have h1 : n * size + size ≤ p * size := by rw [← Nat.succ_mul]; exact Nat.mul_le_mul_right _ h
  rw [if_neg (by omega), List.append_assoc, List.drop_append_of_le_length (by rw [hT]; omega), List.take_append_of_le_length (by rw [List.length_drop, hT]; omega), List.drop_take, List.take_take, Nat.min_eq_left (by omega)]
  by_cases hc : n < c
  ·have h2 : n * size + size ≤ c * size := by rw [← Nat.succ_mul]; exact Nat.mul_le_mul_right _ hc
   rw [if_pos hc, hE, List.drop_append_of_le_length (by rw [hl]; omega), List.take_append_of_le_length (by rw [List.length_drop, hl]; omega)]
  ·have h2 : c * size ≤ n * size := Nat.mul_le_mul_right _ (by omega)
   rw [if_neg hc, hE, List.drop_append, List.drop_of_length_le (by rw [hl]; exact h2), List.nil_append, List.drop_replicate, List.take_replicate]
   congr 1
   omega
 ·subst h
  rw [if_pos rfl, List.append_assoc, List.drop_append, hT, Nat.sub_self, List.drop_zero, List.drop_of_length_le (by rw [hT]; exact Nat.le_refl _), List.nil_append, List.take_append_of_le_length (by omega), List.take_of_length_le (by omega)]
 ·have hc : n < c := by omega
  have h1 : p * size + size ≤ n * size := by rw [← Nat.succ_mul]; exact Nat.mul_le_mul_right _ h
  rw [if_neg (by omega), if_pos hc, List.drop_append, List.drop_of_length_le (by rw [List.length_append, hT, hb]; exact h1), List.nil_append, List.length_append, hT, hb, List.drop_drop]
  congr 2
  omega
theorem bWrite_pages (size p c : Nat) (b img : List UInt8) (hl : img.length = c * size) (hb : b.length = size) : (bWrite size p b img).length = max c (p + 1) * size := by
 rw [bWrite_len _ _ _ _ hb, hl, show p * size + size = (p + 1) * size by rw [Nat.add_mul]; omega]
 by_cases h : c ≤ p + 1
 ·rw [Nat.max_eq_right h, Nat.max_eq_right (Nat.mul_le_mul_right _ h)]
 ·have h' : p + 1 ≤ c := by omega
  rw [Nat.max_eq_left h', Nat.max_eq_left (Nat.mul_le_mul_right size h')]
def Pg.block (p : Pg) : ByteArray := pageB p.kd.toNat p.ct.toNat p.pg p.lk p.tx p.bd
def writeB (z n : Nat) (b img : ByteArray) : ByteArray := ⟨(bWrite z n b.data.toList img.data.toList).toArray⟩
theorem writeB_list (z n : Nat) (b img : ByteArray) : (writeB z n b img).data.toList = bWrite z n b.data.toList img.data.toList := by simp [writeB]
theorem blkOf_list (z n : Nat) (s : ByteArray) : (blkOf z s n).data.toList = pieceL z n s.data.toList := by
 unfold blkOf pieceL
 rw [ByteArray.data_extract, Array.toList_extract, List.extract_eq_take_drop]
 congr 1
 omega
theorem block_right {z : Nat} {p : Pg} (h : mayPg z p.kd p.ct p.pg p.lk p.tx p.bd = true) : p.block.size = z ∧ blockOk z p.pg p.block = true ∧
  p = ⟨numAt p.block 4 1, numAt p.block 6 2, numAt p.block 8 4, numAt p.block 12 4, numAt p.block 16 8, p.block.extract 24 p.block.size⟩ := by
 have hm := h
 simp only [mayPg, Bool.and_eq_true, decide_eq_true_eq] at hm
 obtain ⟨kd, ct, pg, lk, tx, bd⟩ := p
 simp only at hm h
 obtain ⟨k, rfl⟩ := Int.eq_ofNat_of_zero_le (by omega : 0 ≤ kd)
 obtain ⟨c, rfl⟩ := Int.eq_ofNat_of_zero_le (by omega : 0 ≤ ct)
 have hgz : goodSize z = true := hm.1
 have hgp := good_pos hgz
 have hs : (pageB k c pg lk tx bd).size = z := by rw [pageB_size]; omega
 obtain ⟨a1, a2, a3, a4, a5, a6, a7⟩ := pageB_at k c pg lk tx bd (by omega) (by omega) (by omega) (by omega) (by omega)
 have hb : Pg.block ⟨(k : Int), (c : Int), pg, lk, tx, bd⟩ = pageB k c pg lk tx bd := rfl
 rw [hb]
 have b1 : numAt (pageB k c pg lk tx bd) 4 1 = k := a1
 have b2 : numAt (pageB k c pg lk tx bd) 5 1 = 1 := a2
 have b3 : numAt (pageB k c pg lk tx bd) 6 2 = c := a3
 have b4 : numAt (pageB k c pg lk tx bd) 8 4 = pg := a4
 have b5 : numAt (pageB k c pg lk tx bd) 12 4 = lk := a5
 have b6 : numAt (pageB k c pg lk tx bd) 16 8 = tx := a6
 refine ⟨hs, ?_, by rw [b1, b3, b4, b5, b6, a7]⟩
 unfold blockOk
 rw [b1, b2, b3, b4, b5, b6, a7, hs, pageB_sum]
 simp
 exact h
theorem zeros_wrong (z n : Nat) (h : 24 ≤ z) : blockOk z n ⟨(List.replicate z (0 : UInt8)).toArray⟩ = false := by
 have h1 : numAt ⟨(List.replicate z (0 : UInt8)).toArray⟩ 5 1 = 0 := by
  unfold numAt
  simp only [List.drop_replicate, List.take_replicate]
  rw [show min 1 (z - 5) = 1 by omega]
  rfl
 unfold blockOk
 rw [h1]
 simp
theorem readAt_write {z c : Nat} {img : ByteArray} {p : Pg} (hp : mayPg z p.kd p.ct p.pg p.lk p.tx p.bd = true) (hl : img.size = c * z) (n : Nat) :
  readAt z (writeB z p.pg p.block img) n = if n = p.pg then some p else readAt z img n := by
 have hg : goodSize z = true := by simp only [mayPg, Bool.and_eq_true] at hp; exact hp.1
 have hgp := good_pos hg
 obtain ⟨z', hzz, hz1, _⟩ := good_nat hg
 have hz0 : 0 < z := by omega
 obtain ⟨hbs, hok, hpe⟩ := block_right hp
 have hil : img.data.toList.length = c * z := by rw [size_list, hl]
 have hbl : p.block.data.toList.length = z := by rw [size_list, hbs]
 have hws : (writeB z p.pg p.block img).size = max c (p.pg + 1) * z := by rw [← size_list, writeB_list]; exact bWrite_pages z p.pg c _ _ hil hbl
 have hd1 : (writeB z p.pg p.block img).size / z = max c (p.pg + 1) := by rw [hws, Nat.mul_div_cancel _ hz0]
 have hd2 : img.size / z = c := by rw [hl, Nat.mul_div_cancel _ hz0]
 have hzn : ((z : Nat) : Int).toNat = z := by omega
 have hblk : n < max c (p.pg + 1) → blkOf z (writeB z p.pg p.block img) n = if n = p.pg then p.block else if n < c then blkOf z img n else ⟨(List.replicate z (0 : UInt8)).toArray⟩ := fun hn => by
  apply bytes_ext
  rw [blkOf_list, writeB_list, pieceL_write z p.pg c n _ _ hil hbl hn]
  split
  ·rfl
  ·split
   ·rw [blkOf_list]
   ·simp
 unfold readAt
 rw [hzn, hd1, hd2, hg]
 by_cases hn : n < max c (p.pg + 1)
 ·rw [hblk hn, decide_eq_true hn]
  by_cases h1 : n = p.pg
  ·rw [if_pos h1, if_pos h1, h1, hok]
   simp only [Bool.and_self, if_true]
   rw [← hpe]
  ·rw [if_neg h1, if_neg h1]
   by_cases h2 : n < c
   ·rw [if_pos h2, decide_eq_true h2]
   ·rw [if_neg h2, decide_eq_false h2, zeros_wrong z n (by omega)]
    simp
 ·rw [decide_eq_false hn, decide_eq_false (by omega : ¬ n < c), if_neg (by omega : ¬ n = p.pg)]
  simp
def layL (size : Int) (img : ByteArray) (L : List Pg) : Option ByteArray := L.foldl (fun a p => match a with | some i => if mayPg size p.kd p.ct p.pg p.lk p.tx p.bd then some (writeB size.toNat p.pg p.block i) else none | none => none) (some img)
theorem layL_snoc (size : Int) (img : ByteArray) (L : List Pg) (p : Pg) : layL size img (L ++ [p]) = match layL size img L with | some i => if mayPg size p.kd p.ct p.pg p.lk p.tx p.bd then some (writeB size.toNat p.pg p.block i) else none | none => none := by unfold layL; rw [List.foldl_append]; rfl
theorem layL_none {size : Int} {img : ByteArray} {L : List Pg} (h : layL size img L = none) : ∀ M, layL size img (L ++ M) = none := by
 intro M
 induction M generalizing L with
 | nil => simpa using h
 | cons p t ih =>
  rw [show L ++ p :: t = (L ++ [p]) ++ t by simp]
  exact ih (by rw [layL_snoc, h])
theorem layL_front {size : Int} {img : ByteArray} {L : List Pg} {k : Nat} (h : layL size img (L.take k) = none) : layL size img L = none := by
 have := layL_none h (L.drop k)
 rwa [List.take_append_drop] at this
def layStr (size : Int) (img : ByteArray) (L : List Pg) : ByteArray := (layL size img L).getD ⟨#[]⟩
def layErr (size : Int) (img : ByteArray) (L : List Pg) : Int := if (layL size img L).isSome then 0 else 2
theorem lay_no {size : Int} {img : ByteArray} {L : List Pg} (h : layL size img L = none) : layStr size img L = ⟨#[]⟩ ∧ layErr size img L = 2 := by unfold layStr layErr; rw [h]; exact ⟨rfl, rfl⟩
theorem lay_yes {size : Int} {img im : ByteArray} {L : List Pg} (h : layL size img L = some im) : layStr size img L = im ∧ layErr size img L = 0 := by unfold layStr layErr; rw [h]; exact ⟨rfl, rfl⟩
theorem writeB_size (z n : Nat) (b img : ByteArray) (hb : b.size = z) : (writeB z n b img).size = max img.size (n * z + z) := by
 rw [← size_list, writeB_list, bWrite_len _ _ _ _ (by rw [size_list]; exact hb), size_list]
end Go.Proofs.YtmmjckokjmpfpaaGreat

namespace Go.Proofs.YtmmjckokjmpfpaaGreat
open Go.RowKit
open Go.Lib hiding intOf

theorem ext_list9 (t : ByteArray) (a b : Nat) : (t.extract a b).data.toList = (t.data.toList.drop a).take (b - a) := by
 rw [ByteArray.data_extract, Array.toList_extract, List.extract_eq_take_drop]
end Go.Proofs.YtmmjckokjmpfpaaGreat

namespace Go.Proofs.YtmmjckokjmpfpaaGreat
open Go.RowKit
open Go.Lib hiding intOf

def frontP (r : Nat) (v : ByteArray) (k : Nat) : ByteArray := v.extract 0 (min (k * r) v.size)
theorem frontP_zero (r : Nat) (v : ByteArray) : frontP r v 0 = ⟨#[]⟩ := by
 apply bytes_ext
 unfold frontP
 rw [ext_list9]
 simp
theorem frontP_succ {r k : Nat} {v : ByteArray} (hr : 0 < r) (hk : k < ceilD v.size r) : frontP r v (k + 1) = frontP r v k ++ piece r v k := by
 have h := piece_lt hr hk
 apply bytes_ext
 unfold frontP piece
 rw [ByteArray.data_append, Array.toList_append, ext_list9, ext_list9, ext_list9, List.drop_zero, Nat.sub_zero, Nat.sub_zero, Nat.add_mul, Nat.one_mul, Nat.min_eq_left (by omega : k * r ≤ v.size)]
 rw [← List.take_add]
 congr 1
 omega
theorem frontP_end {r : Nat} {v : ByteArray} (hr : 0 < r) : frontP r v (ceilD v.size r) = v := by
 have h := piece_end hr (Nat.lt_irrefl (ceilD v.size r))
 apply bytes_ext
 unfold frontP
 rw [ext_list9, Nat.min_eq_right h, List.drop_zero, Nat.sub_zero]
 exact List.take_of_length_le (by rw [size_list]; exact Nat.le_refl _)
theorem chunks_at {r i : Nat} {v : ByteArray} (hi : i < ceilD v.size r) : (chunks r v)[i]? = some (piece r v i) := by
 unfold chunks
 rw [List.getElem?_map, List.getElem?_range hi]
 rfl
theorem piece_full {r i : Nat} {v : ByteArray} (hr : 0 < r) (hi : i + 1 < ceilD v.size r) : (piece r v i).size = r := by
 have h := piece_lt hr hi
 rw [piece_size hr (by omega)]
 rw [Nat.add_mul, Nat.one_mul] at h
 omega
end Go.Proofs.YtmmjckokjmpfpaaGreat

namespace Go.Proofs.YtmmjckokjmpfpaaGreat
open Go.RowKit
open Go.Lib hiding intOf

end Go.Proofs.YtmmjckokjmpfpaaGreat

namespace Go.Proofs.YtmmjckokjmpfpaaGreat
open Go.RowKit Go.Lib
set_option maxRecDepth 100000

def IsRf (w : World) (g : Nat) (s : ByteArray) : Prop := Blk w g 158 #[.string s]
theorem rbytes_more {w : World} {g : Nat} {s : ByteArray} (h : IsRf w g s) (n : Int) (hn : (s.size : Int) < n) :
  Calls Tryz.prog 65 #[.pointer (some ⟨g, 0, none⟩), .int .i64 n] w fun e w' => e = .returned (.tuple #[.string ⟨#[]⟩, .int .i64 7]) ∧ w = w' := by
 have c0 := Blk.cell h 0
 simp at c0
 have h0 : ¬ n < 0 := by omega
 go_enter Tryz.func65, Tryz.ntmps65
 go_wp2
 go_ret2
 exact ⟨rfl, rfl⟩
theorem rbytes_ok {w : World} {g : Nat} {s : ByteArray} (h : IsRf w g s) (n : Nat) (hn : n ≤ s.size) :
  Calls Tryz.prog 65 #[.pointer (some ⟨g, 0, none⟩), .int .i64 n] w fun e w' => e = .returned (.tuple #[.string (s.extract 0 n), .int .i64 0]) ∧ w' = w.setCell ⟨g, 0, none⟩ (.string (s.extract n s.size)) := by
 have c0 := Blk.cell h 0
 simp at c0
 have f0 := Blk.frozen h 0
 go_enter Tryz.func65, Tryz.ntmps65
 go_wp2
 go_ret2
 exact ⟨rfl, rfl⟩
theorem rput_yes (A : Option Addr) (n c num k : Nat) (l : List UInt8) (w : World) (hr : Reads w w.heap.size 1 A n (bcells l)) (hn : n + 8 ≤ 140737488355328) (h1 : 1 ≤ k) (h2 : k ≤ 8) :
  Calls Tryz.prog 51 #[.slice A n c, .int .u64 num, .int .i64 k] w fun e w' => ∃ v, e = .returned v ∧ w'.ownsRow w.heap.size 5 1 v (n + k) (bcells (l ++ leBytes k num)) ∧ Below w.heap.size w w' := by
 obtain ⟨i0, hi0, hz0, hz1, hz2⟩ := info_parts infoU8
 have h1' : (1 : Int) ≤ k := by omega
 have h2' : (k : Int) ≤ 8 := by omega
 have hown1 : (w.alloc (.cells #[] 5)).ownsRow w.heap.size 5 1 (.slice (some ⟨w.heap.size, 0, none⟩) 0 0) 0 [] := World.ownsRow_made w #[] 0 (Nat.le_refl _) (by simp [maxLen]) rfl
 have hb1 : Below w.heap.size w (w.alloc (.cells #[] 5)) := (Below.refl _ _).alloc (Nat.le_refl _) _
 have HO := Lib.hid hown1
 have HB := Lib.hid hb1
 clear hown1 hb1
 go_enter Tryz.func51, Tryz.ntmps51
 go_wp2_with (at_builtin; refine wpList_append_any _ rfl (.tmp 9) (.tmp 10) _ rfl w.heap.size 5 i0 _ 1 1 Tryz.underlying102 hi0 hz0 hz1 hz2 rfl (by omega) _ 0 [] rfl HO.out w.heap.size A n c _ rfl (hr.below HB.out) (bcells_one _) (by unfold maxLen; omega) (by omega) HB.out.size ?_; intro v2 w2 hown2 hg2 hat2)
 have hb2 : Below w.heap.size w w2 := HB.out.grown hg2 HB.out.size (by rintro g ⟨⟩; exact Nat.le_refl _)
 clear hg2 hat2 HO HB
 go_loopw [7, 8] (fun v i wr => ∃ j : Nat, j ≤ k ∧ i = .int .i64 j ∧ wr.ownsRow w.heap.size 5 1 v (n + j) (bcells (l ++ leBytes j num)) ∧ Below w.heap.size w wr) (fun _ i _ => k - (RowKit.intOf i).toNat)
 case atStart => exact ⟨0, Nat.zero_le _, rfl, by simpa [leBytes] using hown2, hb2⟩
 case round =>
  obtain ⟨j, hj, rfl, hown, hbr⟩ := hrel
  by_cases hlt : j < k
  ·go_wp2_with (first
    | (at_builtin; refine wpList_append_any _ rfl (.tmp 24) (.tmp 31) _ rfl w.heap.size 5 i0 _ 1 1 Tryz.underlying102 hi0 hz0 hz1 hz2 rfl (by omega) _ (n + j) _ rfl (hown.alloc _) (wr.heap.size + 1) (some ⟨wr.heap.size, 0, none⟩) 1 1 [Value.int .u8 ((num : Int) / 2 ^ (8 * j) % 256)] rfl (reads_new _ _ _ _) (oneCell_one rfl) (by unfold maxLen; omega) (by omega) (by have := hbr.size; simp; omega) ?_; intro v3 w3 hown3 hg3 hat3))
   go_roundw
   case rel =>
    refine ⟨j + 1, by omega, by go_num, ?_, ?_⟩
    ·rw [leBytes_snoc, ← List.append_assoc, bcells_append, ← byte_cell]
     exact hown3
    ·exact (hbr.alloc hbr.size _).grown hg3 (by have := hbr.size; simp; omega) (fun g hg => (hown.lt g hg).1)
   case measure => simp [RowKit.intOf]; omega
  ·go_wp2
   go_ret
   have : j = k := by omega
   subst this
   exact ⟨_, rfl, hown, hbr⟩
theorem rput_reads (A : Option Addr) (n c num k : Nat) (l : List UInt8) (w : World) (hr : Reads w w.heap.size 1 A n (bcells l)) (hn : n + 8 ≤ 140737488355328) (h1 : 1 ≤ k) (h2 : k ≤ 8) :
  Calls Tryz.prog 51 #[.slice A n c, .int .u64 num, .int .i64 k] w fun e w' => ∃ A' c', e = .returned (.slice A' (n + k) c') ∧ Reads w' w'.heap.size 1 A' (n + k) (bcells (l ++ leBytes k num)) ∧ Below w.heap.size w w' :=
 (rput_yes A n c num k l w hr hn h1 h2).mono fun _ _ ⟨v, he, ho, hb⟩ => by
  obtain ⟨A', c', rfl, _⟩ := own_form ho
  exact ⟨A', c', he, Reads.of_own ho, hb⟩
end Go.Proofs.YtmmjckokjmpfpaaGreat

namespace Go.Proofs.YtmmjckokjmpfpaaGreat
open Go.RowKit
open Go.Lib
attribute [local go_sem ↓] Go.wp_at_zero Go.wp_at_succ

set_option maxHeartbeats 3200000 in
theorem rrest_any (kd ct pg lk tx : Nat) (bd : ByteArray) (w : World) (h1 : kd < 18446744073709551616) (h2 : ct < 18446744073709551616) (h3 : pg < 18446744073709551616) (h4 : lk < 18446744073709551616) (h5 : bd.size ≤ 1000000000) (rs : ByteArray) (hrs : rs = ⟨(restL kd ct pg lk tx bd).toArray⟩) :
  Calls Tryz.prog 84 #[.agg #[.int .i64 kd, .int .i64 ct, .int .u32 pg, .int .u32 lk, .int .u64 tx, .string bd]] w fun e w' => e = .returned (.string rs) ∧ Below w.heap.size w w' := by
 have b0 : Blk (w.alloc (.cells #[.int .i64 kd, .int .i64 ct, .int .u32 pg, .int .u32 lk, .int .u64 tx, .string bd] 41)) w.heap.size 41 #[.int .i64 kd, .int .i64 ct, .int .u32 pg, .int .u32 lk, .int .u64 tx, .string bd] := Blk.new _ _ _
 have B0 := Lib.hid b0
 clear b0
 have hb0 : Below w.heap.size w (w.alloc (.cells #[.int .i64 kd, .int .i64 ct, .int .u32 pg, .int .u32 lk, .int .u64 tx, .string bd] 41)) := (Below.refl _ _).alloc (Nat.le_refl _) _
 have hlt : w.heap.size < (w.alloc (.cells #[.int .i64 kd, .int .i64 ct, .int .u32 pg, .int .u32 lk, .int .u64 tx, .string bd] 41)).heap.size := by simp
 obtain ⟨w0, hw0⟩ : ∃ w0, w0 = w.alloc (.cells #[.int .i64 kd, .int .i64 ct, .int .u32 pg, .int .u32 lk, .int .u64 tx, .string bd] 41) := ⟨_, rfl⟩
 rw [← hw0] at B0 hb0 hlt
 have e1 := u64_nat kd h1
 have e2 := u64_nat ct h2
 have e3 := u64_nat pg h3
 have e4 := u64_nat lk h4
 have b0 := B0.out
 have c0 := b0.cell 0
 have c1 := b0.cell 1
 have c2 := b0.cell 2
 have c3 := b0.cell 3
 have c4 := b0.cell 4
 have c5 := b0.cell 5
 simp at c0 c1 c2 c3 c4 c5
 clear b0
 go_enter Tryz.func84, Tryz.ntmps84
 go_wp2_with fail
 rw [← hw0]
 clear hw0
 refine (rput_reads none 0 0 kd 1 [] _ (reads_nil _) (by omega) (by omega) (by omega)).mono ?_
 rintro e w1 ⟨A1, c1_, rfl, hr1, hb1⟩
 rw [List.nil_append] at hr1
 have R1 := Lib.hid hr1
 replace B0 := Lib.hid (B0.out.below hb1 hlt)
 replace hlt := Nat.lt_of_lt_of_le hlt hb1.size
 replace hb0 := hb0.trans (hb1.mono hb0.size)
 clear c0 c1 c2 c3 c4 c5 hb1 hr1
 have b0 := B0.out
 have c0 := b0.cell 0
 have c1 := b0.cell 1
 have c2 := b0.cell 2
 have c3 := b0.cell 3
 have c4 := b0.cell 4
 have c5 := b0.cell 5
 simp at c0 c1 c2 c3 c4 c5
 clear b0
 go_wp2_with fail
 refine (rput_reads A1 1 c1_ 1 1 (leBytes 1 kd) _ R1.out (by omega) (by omega) (by omega)).mono ?_
 rintro e w2 ⟨A2, c2_, rfl, hr2, hb2⟩
 have R2 := Lib.hid hr2
 replace B0 := Lib.hid (B0.out.below hb2 hlt)
 replace hlt := Nat.lt_of_lt_of_le hlt hb2.size
 replace hb0 := hb0.trans (hb2.mono hb0.size)
 clear c0 c1 c2 c3 c4 c5 hb2 hr2
 have b0 := B0.out
 have c0 := b0.cell 0
 have c1 := b0.cell 1
 have c2 := b0.cell 2
 have c3 := b0.cell 3
 have c4 := b0.cell 4
 have c5 := b0.cell 5
 simp at c0 c1 c2 c3 c4 c5
 clear b0
 go_wp2_with fail
 refine (rput_reads A2 2 c2_ ct 2 ((leBytes 1 kd) ++ leBytes 1 1) _ R2.out (by omega) (by omega) (by omega)).mono ?_
 rintro e w3 ⟨A3, c3_, rfl, hr3, hb3⟩
 have R3 := Lib.hid hr3
 replace B0 := Lib.hid (B0.out.below hb3 hlt)
 replace hlt := Nat.lt_of_lt_of_le hlt hb3.size
 replace hb0 := hb0.trans (hb3.mono hb0.size)
 clear c0 c1 c2 c3 c4 c5 hb3 hr3
 have b0 := B0.out
 have c0 := b0.cell 0
 have c1 := b0.cell 1
 have c2 := b0.cell 2
 have c3 := b0.cell 3
 have c4 := b0.cell 4
 have c5 := b0.cell 5
 simp at c0 c1 c2 c3 c4 c5
 clear b0
 go_wp2_with fail
 refine (rput_reads A3 4 c3_ pg 4 (((leBytes 1 kd) ++ leBytes 1 1) ++ leBytes 2 ct) _ R3.out (by omega) (by omega) (by omega)).mono ?_
 rintro e w4 ⟨A4, c4_, rfl, hr4, hb4⟩
 have R4 := Lib.hid hr4
 replace B0 := Lib.hid (B0.out.below hb4 hlt)
 replace hlt := Nat.lt_of_lt_of_le hlt hb4.size
 replace hb0 := hb0.trans (hb4.mono hb0.size)
 clear c0 c1 c2 c3 c4 c5 hb4 hr4
 have b0 := B0.out
 have c0 := b0.cell 0
 have c1 := b0.cell 1
 have c2 := b0.cell 2
 have c3 := b0.cell 3
 have c4 := b0.cell 4
 have c5 := b0.cell 5
 simp at c0 c1 c2 c3 c4 c5
 clear b0
 go_wp2_with fail
 refine (rput_reads A4 8 c4_ lk 4 ((((leBytes 1 kd) ++ leBytes 1 1) ++ leBytes 2 ct) ++ leBytes 4 pg) _ R4.out (by omega) (by omega) (by omega)).mono ?_
 rintro e w5 ⟨A5, c5_, rfl, hr5, hb5⟩
 have R5 := Lib.hid hr5
 replace B0 := Lib.hid (B0.out.below hb5 hlt)
 replace hlt := Nat.lt_of_lt_of_le hlt hb5.size
 replace hb0 := hb0.trans (hb5.mono hb0.size)
 clear c0 c1 c2 c3 c4 c5 hb5 hr5
 have b0 := B0.out
 have c0 := b0.cell 0
 have c1 := b0.cell 1
 have c2 := b0.cell 2
 have c3 := b0.cell 3
 have c4 := b0.cell 4
 have c5 := b0.cell 5
 simp at c0 c1 c2 c3 c4 c5
 clear b0
 go_wp2_with fail
 refine (rput_reads A5 12 c5_ tx 8 (((((leBytes 1 kd) ++ leBytes 1 1) ++ leBytes 2 ct) ++ leBytes 4 pg) ++ leBytes 4 lk) _ R5.out (by omega) (by omega) (by omega)).mono ?_
 rintro e w6 ⟨A6, c6_, rfl, hr6, hb6⟩
 have R6 := Lib.hid hr6
 replace B0 := Lib.hid (B0.out.below hb6 hlt)
 replace hb0 := hb0.trans (hb6.mono hb0.size)
 have hcv := run_string_reads w6 102 9 5 c6_ Tryz.underlying102 Tryz.underlying5 Tryz.underlying9 R6.out
 clear c0 c1 c2 c3 c4 c5 hr6 hb6
 have c5 := B0.out.cell 5
 simp at c5
 have hsz : (⟨((((((leBytes 1 kd) ++ leBytes 1 1) ++ leBytes 2 ct) ++ leBytes 4 pg) ++ leBytes 4 lk) ++ leBytes 8 tx).toArray⟩ : ByteArray).size = 20 := by rw [← size_list]; simp [leB_len]
 have cat : ¬ (9223372036854775807 < (⟨((((((leBytes 1 kd) ++ leBytes 1 1) ++ leBytes 2 ct) ++ leBytes 4 pg) ++ leBytes 4 lk) ++ leBytes 8 tx).toArray⟩ : ByteArray).size + bd.size) := by rw [hsz]; omega
 have hcat : (⟨((((((leBytes 1 kd) ++ leBytes 1 1) ++ leBytes 2 ct) ++ leBytes 4 pg) ++ leBytes 4 lk) ++ leBytes 8 tx).toArray⟩ : ByteArray) ++ bd = rs := by
  rw [hrs]
  apply bytes_ext
  rw [ByteArray.data_append, Array.toList_append]
  rfl
 obtain ⟨hd, hhd⟩ : ∃ hd : ByteArray, hd = ⟨((((((leBytes 1 kd) ++ leBytes 1 1) ++ leBytes 2 ct) ++ leBytes 4 pg) ++ leBytes 4 lk) ++ leBytes 8 tx).toArray⟩ := ⟨_, rfl⟩
 rw [← hhd] at cat hcat hcv
 have HC := Lib.hid hcat
 clear hcat hhd hsz hrs
 go_wp2_with fail
 go_ret
 exact ⟨by rw [← HC.out]; rfl, hb0⟩

theorem rfput_no (size kd ct : Int) (pg lk tx : Nat) (bd : ByteArray) (w : World) (h : mayPg size kd ct pg lk tx bd = false) :
  Calls Tryz.prog 53 #[.int .i64 size, .agg #[.int .i64 kd, .int .i64 ct, .int .u32 pg, .int .u32 lk, .int .u64 tx, .string bd]] w fun e w' => e = .returned (.tuple #[.string ⟨#[]⟩, .int .i64 2]) ∧ Below w.heap.size w w' := by
 have b0 : Blk (w.alloc (.cells #[.int .i64 kd, .int .i64 ct, .int .u32 pg, .int .u32 lk, .int .u64 tx, .string bd] 41)) w.heap.size 41 #[.int .i64 kd, .int .i64 ct, .int .u32 pg, .int .u32 lk, .int .u64 tx, .string bd] := Blk.new _ _ _
 have HB := Lib.hid (show Below w.heap.size w (w.alloc (.cells #[.int .i64 kd, .int .i64 ct, .int .u32 pg, .int .u32 lk, .int .u64 tx, .string bd] 41)) from (Below.refl _ _).alloc (Nat.le_refl _) _)
 have c0 := b0.cell 0
 have c1 := b0.cell 1
 have c2 := b0.cell 2
 have c3 := b0.cell 3
 have c4 := b0.cell 4
 have c5 := b0.cell 5
 simp at c0 c1 c2 c3 c4 c5
 clear b0
 go_enter Tryz.func53, Tryz.ntmps53
 go_wp2_with fail
 refine (rmay_any _ _ _ _ _ _ _ _).mono ?_
 rw [h]
 rintro e w1 ⟨rfl, hb1⟩
 go_wp2_with fail
 go_ret2
 exact ⟨rfl, HB.out.trans (hb1.mono (HB.out).size)⟩

set_option maxHeartbeats 1600000 in
theorem rfput_yes (size : Int) (kd ct pg lk tx : Nat) (bd : ByteArray) (w : World) (h : mayPg size kd ct pg lk tx bd = true) :
  Calls Tryz.prog 53 #[.int .i64 size, .agg #[.int .i64 kd, .int .i64 ct, .int .u32 pg, .int .u32 lk, .int .u64 tx, .string bd]] w fun e w' => e = .returned (.tuple #[.string (pageB kd ct pg lk tx bd), .int .i64 0]) ∧ Below w.heap.size w w' := by
 have hm := h
 simp only [mayPg, Bool.and_eq_true, decide_eq_true_eq] at hm
 obtain ⟨hg, m1, m2, m3, m4, m5, m6, m7, m8⟩ := hm
 obtain ⟨n, rfl, n1, n2, n3⟩ := good_nat hg
 have hbs : bd.size = n - 24 := by omega
 have HB := Lib.hid (show Below w.heap.size w (w.alloc (.cells #[.int .i64 kd, .int .i64 ct, .int .u32 pg, .int .u32 lk, .int .u64 tx, .string bd] 41)) from (Below.refl _ _).alloc (Nat.le_refl _) _)
 obtain ⟨w0, hw0⟩ : ∃ w0, w0 = w.alloc (.cells #[.int .i64 kd, .int .i64 ct, .int .u32 pg, .int .u32 lk, .int .u64 tx, .string bd] 41) := ⟨_, rfl⟩
 have B0 := Lib.hid (show Blk w0 w.heap.size 41 #[.int .i64 kd, .int .i64 ct, .int .u32 pg, .int .u32 lk, .int .u64 tx, .string bd] by rw [hw0]; exact Blk.new _ _ _)
 rw [← hw0] at HB
 have HV := fun w => rmay_any n kd ct pg lk tx bd w
 rw [h] at HV
 obtain ⟨rs, hrs⟩ : ∃ rs : ByteArray, rs = ⟨(restL kd ct pg lk tx bd).toArray⟩ := ⟨_, rfl⟩
 have HR := fun w => rrest_any kd ct pg lk tx bd w (by omega) (by omega) (by omega) (by omega) (by omega) rs hrs
 have hrl : rs.data.toList = restL kd ct pg lk tx bd := by rw [hrs]
 have hrz : rs.size = n - 4 := by rw [← size_list, hrl, restL_len, hbs]; omega
 have HO := fun w => rof_any rs w (by rw [hrz]; unfold maxLen; omega)
 rw [hrl] at HO
 have hcr := crcM_lt 0 (restL kd ct pg lk tx bd)
 obtain ⟨cr, hcr2⟩ : ∃ cr, cr = crcM 0 (restL kd ct pg lk tx bd) := ⟨_, rfl⟩
 rw [← hcr2] at HO hcr
 have hw8 := u64_nat cr (by omega)
 have hpb : pageB kd ct pg lk tx bd = (⟨(leBytes 4 cr).toArray⟩ : ByteArray) ++ rs := by
  apply bytes_ext
  rw [pageB_list, ByteArray.data_append, Array.toList_append, hrl, hcr2]
 rw [hpb]
 have cat2 : ¬ (9223372036854775807 < (⟨(leBytes 4 cr).toArray⟩ : ByteArray).size + rs.size) := by
  have : (⟨(leBytes 4 cr).toArray⟩ : ByteArray).size = 4 := by rw [← size_list]; simp [leB_len]
  omega
 clear hpb hrl hrs hcr2 h m1 m2 m3 m4 m5 m6 m7 m8 hg n1 n2 n3 hbs hrz hcr
 have k0 := B0.out.cell 0
 have k1 := B0.out.cell 1
 have k2 := B0.out.cell 2
 have k3 := B0.out.cell 3
 have k4 := B0.out.cell 4
 have k5 := B0.out.cell 5
 rw [hw0] at k0 k1 k2 k3 k4 k5
 simp at k0 k1 k2 k3 k4 k5
 go_enter Tryz.func53, Tryz.ntmps53
 go_wp2_with fail
 rw [← hw0]
 clear hw0 k0 k1 k2 k3 k4 k5
 refine (HV _).mono ?_
 rintro e w1 ⟨rfl, hb⟩
 replace B0 := Lib.hid (B0.out.below hb B0.out.lt)
 replace HB := Lib.hid (HB.out.trans (hb.mono HB.out.size))
 clear hb
 have k0 := B0.out.cell 0
 have k1 := B0.out.cell 1
 have k2 := B0.out.cell 2
 have k3 := B0.out.cell 3
 have k4 := B0.out.cell 4
 have k5 := B0.out.cell 5
 simp at k0 k1 k2 k3 k4 k5
 go_wp2_with fail
 refine (HR _).mono ?_
 rintro e w2 ⟨rfl, hb⟩
 replace HB := Lib.hid (HB.out.trans (hb.mono HB.out.size))
 clear hb k0 k1 k2 k3 k4 k5 B0
 go_wp2_with fail
 refine (HO _).mono ?_
 rintro e w3 ⟨rfl, hb⟩
 replace HB := Lib.hid (HB.out.trans (hb.mono HB.out.size))
 clear hb
 go_wp2_with fail
 refine (rput_reads none 0 0 cr 4 [] _ (reads_nil _) (by omega) (by omega) (by omega)).mono ?_
 rintro e w4 ⟨A4, c4_, rfl, hr4, hb⟩
 rw [List.nil_append] at hr4
 have hcv := run_string_reads w4 102 9 5 c4_ Tryz.underlying102 Tryz.underlying5 Tryz.underlying9 hr4
 clear hr4
 replace HB := Lib.hid (HB.out.trans (hb.mono HB.out.size))
 clear hb
 go_wp2_with fail
 go_ret2
 exact ⟨rfl, HB.out⟩
end Go.Proofs.YtmmjckokjmpfpaaGreat

