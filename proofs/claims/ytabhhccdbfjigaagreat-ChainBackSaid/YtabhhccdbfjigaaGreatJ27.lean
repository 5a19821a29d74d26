/-
  Texts that the main proof rests on, put together: Lay, OvMath, OvMath3, FnMath, Ref11S. No statement is proved here.
-/
import Derived.Test.YtabhhccdbfjigaaGreatJ12
import Derived.Test.YtabhhccdbfjigaaGreatJ5
import Derived.Test.YtabhhccdbfjigaaGreatJ20
import Derived.Test.YtabhhccdbfjigaaGreatJ22
import Derived.Deep.CutRange
import Derived.Deep.DrawnRows
import Derived.Deep.QuietTactic
import Derived.BigQuiet
namespace Go.Proofs.YtabhhccdbfjigaaGreat
open Go.RowKit
open Go.Lib hiding intOf
set_option linter.unusedVariables false
set_option linter.unusedSimpArgs false

/-- Page n of an image. -/
def pieceL (z n : Nat) (img : List UInt8) : List UInt8 := (img.drop (n * z)).take z
theorem pieceL_write (size p c n : Nat) (b img : List UInt8) (hl : img.length = c * size) (hb : b.length = size) (hn : n < max c (p + 1)) :
    pieceL size n (bWrite size p b img) = if n = p then b else if n < c then pieceL size n img else List.replicate size 0 := by
  obtain ⟨E, hE⟩ : ∃ E, E = img ++ List.replicate (p * size + size - img.length) (0 : UInt8) := ⟨_, rfl⟩
  have hEl : p * size + size ≤ E.length := by rw [hE, List.length_append, List.length_replicate]; omega
  have hT : (E.take (p * size)).length = p * size := by rw [List.length_take]; omega
  unfold bWrite pieceL
  rw [← hE]
  rcases Nat.lt_trichotomy n p with h | h | h
  · have h1 : n * size + size ≤ p * size := by rw [← Nat.succ_mul]; exact Nat.mul_le_mul_right _ h
    rw [if_neg (by omega), List.append_assoc, List.drop_append_of_le_length (by rw [hT]; omega), List.take_append_of_le_length (by rw [List.length_drop, hT]; omega), List.drop_take, List.take_take, Nat.min_eq_left (by omega)]
    by_cases hc : n < c
    · have h2 : n * size + size ≤ c * size := by rw [← Nat.succ_mul]; exact Nat.mul_le_mul_right _ hc
      rw [if_pos hc, hE, List.drop_append_of_le_length (by rw [hl]; omega), List.take_append_of_le_length (by rw [List.length_drop, hl]; omega)]
    · have h2 : c * size ≤ n * size := Nat.mul_le_mul_right _ (by omega)
      rw [if_neg hc, hE, List.drop_append, List.drop_of_length_le (by rw [hl]; exact h2), List.nil_append, List.drop_replicate, List.take_replicate]
      congr 1
      omega
  · subst h
    rw [if_pos rfl, List.append_assoc, List.drop_append, hT, Nat.sub_self, List.drop_zero, List.drop_of_length_le (by rw [hT]; exact Nat.le_refl _), List.nil_append, List.take_append_of_le_length (by omega), List.take_of_length_le (by omega)]
  · have hc : n < c := by omega
    have h1 : p * size + size ≤ n * size := by rw [← Nat.succ_mul]; exact Nat.mul_le_mul_right _ h
    rw [if_neg (by omega), if_pos hc, List.drop_append, List.drop_of_length_le (by rw [List.length_append, hT, hb]; exact h1), List.nil_append, List.length_append, hT, hb, List.drop_drop]
    congr 2
    omega
theorem bWrite_pages (size p c : Nat) (b img : List UInt8) (hl : img.length = c * size) (hb : b.length = size) : (bWrite size p b img).length = max c (p + 1) * size := by
  rw [bWrite_len _ _ _ _ hb, hl, show p * size + size = (p + 1) * size by rw [Nat.add_mul]; omega]
  by_cases h : c ≤ p + 1
  · rw [Nat.max_eq_right h, Nat.max_eq_right (Nat.mul_le_mul_right _ h)]
  · have h' : p + 1 ≤ c := by omega
    rw [Nat.max_eq_left h', Nat.max_eq_left (Nat.mul_le_mul_right size h')]
/-- A page's bytes. -/
def Pg.block (p : Pg) : ByteArray := pageB p.kd.toNat p.ct.toNat p.pg p.lk p.tx p.bd
/-- An image behind a write. -/
def writeB (z n : Nat) (b img : ByteArray) : ByteArray := ⟨(bWrite z n b.data.toList img.data.toList).toArray⟩
theorem writeB_list (z n : Nat) (b img : ByteArray) : (writeB z n b img).data.toList = bWrite z n b.data.toList img.data.toList := by simp [writeB]
theorem blkOf_list (z n : Nat) (s : ByteArray) : (blkOf z s n).data.toList = pieceL z n s.data.toList := by
  unfold blkOf pieceL
  rw [ByteArray.data_extract, Array.toList_extract, List.extract_eq_take_drop]
  congr 1
  omega
theorem block_right {z : Nat} {p : Pg} (h : mayPg z p.kd p.ct p.pg p.lk p.tx p.bd = true) : p.block.size = z ∧ blockOk z p.pg p.block = true ∧
    p = ⟨numAt p.block 4 1, numAt p.block 6 2, numAt p.block 8 4, numAt p.block 12 4, numAt p.block 16 8, p.block.extract 24 p.block.size⟩ := by
  have hm := h
  simp only [mayPg, Bool.and_eq_true, decide_eq_true_eq] at hm
  obtain ⟨kd, ct, pg, lk, tx, bd⟩ := p
  simp only at hm h
  obtain ⟨k, rfl⟩ := Int.eq_ofNat_of_zero_le (by omega : 0 ≤ kd)
  obtain ⟨c, rfl⟩ := Int.eq_ofNat_of_zero_le (by omega : 0 ≤ ct)
  have hgz : goodSize z = true := hm.1
  have hgp := good_pos hgz
  have hs : (pageB k c pg lk tx bd).size = z := by rw [pageB_size]; omega
  obtain ⟨a1, a2, a3, a4, a5, a6, a7⟩ := pageB_at k c pg lk tx bd (by omega) (by omega) (by omega) (by omega) (by omega)
  have hb : Pg.block ⟨(k : Int), (c : Int), pg, lk, tx, bd⟩ = pageB k c pg lk tx bd := rfl
  rw [hb]
  have b1 : numAt (pageB k c pg lk tx bd) 4 1 = k := a1
  have b2 : numAt (pageB k c pg lk tx bd) 5 1 = 1 := a2
  have b3 : numAt (pageB k c pg lk tx bd) 6 2 = c := a3
  have b4 : numAt (pageB k c pg lk tx bd) 8 4 = pg := a4
  have b5 : numAt (pageB k c pg lk tx bd) 12 4 = lk := a5
  have b6 : numAt (pageB k c pg lk tx bd) 16 8 = tx := a6
  refine ⟨hs, ?_, by rw [b1, b3, b4, b5, b6, a7]⟩
  unfold blockOk
  rw [b1, b2, b3, b4, b5, b6, a7, hs, pageB_sum]
  simp
  exact h
theorem zeros_wrong (z n : Nat) (h : 24 ≤ z) : blockOk z n ⟨(List.replicate z (0 : UInt8)).toArray⟩ = false := by
  have h1 : numAt ⟨(List.replicate z (0 : UInt8)).toArray⟩ 5 1 = 0 := by
    unfold numAt
    simp only [List.drop_replicate, List.take_replicate]
    rw [show min 1 (z - 5) = 1 by omega]
    rfl
  unfold blockOk
  rw [h1]
  simp
/-- What is read of an image behind a page that is laid. -/
theorem readAt_write {z c : Nat} {img : ByteArray} {p : Pg} (hp : mayPg z p.kd p.ct p.pg p.lk p.tx p.bd = true) (hl : img.size = c * z) (n : Nat) :
    readAt z (writeB z p.pg p.block img) n = if n = p.pg then some p else readAt z img n := by
  have hg : goodSize z = true := by simp only [mayPg, Bool.and_eq_true] at hp; exact hp.1
  have hgp := good_pos hg
  obtain ⟨z', hzz, hz1, _⟩ := good_nat hg
  have hz0 : 0 < z := by omega
  obtain ⟨hbs, hok, hpe⟩ := block_right hp
  have hil : img.data.toList.length = c * z := by rw [size_list, hl]
  have hbl : p.block.data.toList.length = z := by rw [size_list, hbs]
  have hws : (writeB z p.pg p.block img).size = max c (p.pg + 1) * z := by rw [← size_list, writeB_list]; exact bWrite_pages z p.pg c _ _ hil hbl
  have hd1 : (writeB z p.pg p.block img).size / z = max c (p.pg + 1) := by rw [hws, Nat.mul_div_cancel _ hz0]
  have hd2 : img.size / z = c := by rw [hl, Nat.mul_div_cancel _ hz0]
  have hzn : ((z : Nat) : Int).toNat = z := by omega
  have hblk : n < max c (p.pg + 1) → blkOf z (writeB z p.pg p.block img) n = if n = p.pg then p.block else if n < c then blkOf z img n else ⟨(List.replicate z (0 : UInt8)).toArray⟩ := fun hn => by
    apply bytes_ext
    rw [blkOf_list, writeB_list, pieceL_write z p.pg c n _ _ hil hbl hn]
    split
    · rfl
    · split
      · rw [blkOf_list]
      · simp
  unfold readAt
  rw [hzn, hd1, hd2, hg]
  by_cases hn : n < max c (p.pg + 1)
  · rw [hblk hn, decide_eq_true hn]
    by_cases h1 : n = p.pg
    · rw [if_pos h1, if_pos h1, h1, hok]
      simp only [Bool.and_self, if_true]
      rw [← hpe]
    · rw [if_neg h1, if_neg h1]
      by_cases h2 : n < c
      · rw [if_pos h2, decide_eq_true h2]
      · rw [if_neg h2, decide_eq_false h2, zeros_wrong z n (by omega)]
        simp
  · rw [decide_eq_false hn, decide_eq_false (by omega : ¬ n < c), if_neg (by omega : ¬ n = p.pg)]
    simp
/-- An image behind pages that are laid, one after the other. -/
def layL (size : Int) (img : ByteArray) (L : List Pg) : Option ByteArray := L.foldl (fun a p => match a with | some i => if mayPg size p.kd p.ct p.pg p.lk p.tx p.bd then some (writeB size.toNat p.pg p.block i) else none | none => none) (some img)
theorem layL_snoc (size : Int) (img : ByteArray) (L : List Pg) (p : Pg) : layL size img (L ++ [p]) = match layL size img L with | some i => if mayPg size p.kd p.ct p.pg p.lk p.tx p.bd then some (writeB size.toNat p.pg p.block i) else none | none => none := by unfold layL; rw [List.foldl_append]; rfl
theorem layL_none {size : Int} {img : ByteArray} {L : List Pg} (h : layL size img L = none) : ∀ M, layL size img (L ++ M) = none := by
  intro M
  induction M generalizing L with
  | nil => simpa using h
  | cons p t ih =>
    rw [show L ++ p :: t = (L ++ [p]) ++ t by simp]
    exact ih (by rw [layL_snoc, h])
theorem layL_front {size : Int} {img : ByteArray} {L : List Pg} {k : Nat} (h : layL size img (L.take k) = none) : layL size img L = none := by
  have := layL_none h (L.drop k)
  rwa [List.take_append_drop] at this
def layStr (size : Int) (img : ByteArray) (L : List Pg) : ByteArray := (layL size img L).getD ⟨#[]⟩
def layErr (size : Int) (img : ByteArray) (L : List Pg) : Int := if (layL size img L).isSome then 0 else 2
theorem lay_no {size : Int} {img : ByteArray} {L : List Pg} (h : layL size img L = none) : layStr size img L = ⟨#[]⟩ ∧ layErr size img L = 2 := by unfold layStr layErr; rw [h]; exact ⟨rfl, rfl⟩
theorem lay_yes {size : Int} {img im : ByteArray} {L : List Pg} (h : layL size img L = some im) : layStr size img L = im ∧ layErr size img L = 0 := by unfold layStr layErr; rw [h]; exact ⟨rfl, rfl⟩
theorem writeB_size (z n : Nat) (b img : ByteArray) (hb : b.size = z) : (writeB z n b img).size = max img.size (n * z + z) := by
  rw [← size_list, writeB_list, bWrite_len _ _ _ _ (by rw [size_list]; exact hb), size_list]
end Go.Proofs.YtabhhccdbfjigaaGreat
namespace Go.Proofs.YtabhhccdbfjigaaGreat
open Go.RowKit
open Go.Lib hiding intOf
set_option linter.unusedVariables false
set_option linter.unusedSimpArgs false

theorem ext_list9 (t : ByteArray) (a b : Nat) : (t.extract a b).data.toList = (t.data.toList.drop a).take (b - a) := by
  rw [ByteArray.data_extract, Array.toList_extract, List.extract_eq_take_drop]
theorem ext_back9 (t : ByteArray) (a : Nat) : (t.extract a t.size).data.toList = t.data.toList.drop a := by
  rw [ext_list9, List.take_of_length_le]
  rw [List.length_drop, size_list]
  omega
theorem ext_size9 (t : ByteArray) (a b : Nat) (h : b ≤ t.size) : (t.extract a b).size = b - a := by rw [ByteArray.size_extract]; omega
theorem ceilD_mul {r j : Nat} (hr : 0 < r) : ceilD (j * r) r = j := by
  unfold ceilD
  rw [show j * r + r - 1 = (r - 1) + j * r by omega, Nat.add_mul_div_right _ _ hr, Nat.div_eq_of_lt (by omega)]
  omega
theorem ceilD_add {r j m : Nat} (hr : 0 < r) : ceilD (j * r + m) r = j + ceilD m r := by
  unfold ceilD
  rw [show j * r + m + r - 1 = (m + r - 1) + j * r by omega, Nat.add_mul_div_right _ _ hr]
  omega
theorem chunks_append {r j : Nat} (v : ByteArray) (hr : 0 < r) (hk : j * r ≤ v.size) : chunks r v = chunks r (v.extract 0 (j * r)) ++ chunks r (v.extract (j * r) v.size) := by
  have hsa : (v.extract 0 (j * r)).size = j * r := by rw [ext_size9 _ _ _ hk]; omega
  have hsb : (v.extract (j * r) v.size).size = v.size - j * r := ext_size9 _ _ _ (Nat.le_refl _)
  obtain ⟨m, hm⟩ : ∃ m, v.size = j * r + m := ⟨v.size - j * r, by omega⟩
  unfold chunks
  rw [hsa, hsb, ceilD_mul hr, show v.size - j * r = m by omega, show ceilD v.size r = j + ceilD m r by rw [hm]; exact ceilD_add hr, List.range_add, List.map_append]
  congr 1
  · apply List.map_congr_left
    intro i hi
    rw [List.mem_range] at hi
    have h1 : (i + 1) * r ≤ j * r := Nat.mul_le_mul_right _ hi
    have h2 : (i + 1) * r = i * r + r := by rw [Nat.add_mul, Nat.one_mul]
    apply bytes_ext
    unfold piece
    rw [ext_list9, ext_list9, ext_list9, hsa, List.drop_zero, List.drop_take, List.take_take]
    congr 1
    omega
  · rw [List.map_map]
    apply List.map_congr_left
    intro i hi
    have h2 : (i + 1) * r = i * r + r := by rw [Nat.add_mul, Nat.one_mul]
    have h3 : (j + i + 1) * r = j * r + i * r + r := by rw [Nat.add_mul, Nat.add_mul, Nat.one_mul]
    have h4 : (j + i) * r = j * r + i * r := by rw [Nat.add_mul]
    apply bytes_ext
    show (piece r v (j + i)).data.toList = (piece r (v.extract (j * r) v.size) i).data.toList
    unfold piece
    rw [ext_list9, ext_list9, hsb, ext_back9, List.drop_drop, h2, h3, h4]
    congr 1
    omega
/-- All pieces are full but the last one. -/
theorem chunks_size {r : Nat} {v : ByteArray} {i : Nat} {x : ByteArray} (hr : 0 < r) (hx : (chunks r v)[i]? = some x) : x.size = min r (v.size - i * r) ∧ i < ceilD v.size r := by
  unfold chunks at hx
  rw [List.getElem?_map] at hx
  obtain ⟨j, hj, rfl⟩ := Option.map_eq_some_iff.1 hx
  obtain ⟨h1, h2⟩ := List.getElem?_eq_some_iff.1 hj
  rw [List.length_range] at h1
  rw [List.getElem_range] at h2
  subst h2
  exact ⟨piece_size hr h1, h1⟩
end Go.Proofs.YtabhhccdbfjigaaGreat
namespace Go.Proofs.YtabhhccdbfjigaaGreat
open Go.RowKit
open Go.Lib hiding intOf
set_option linter.unusedVariables false
set_option linter.unusedSimpArgs false

/-- The first k parts one behind the other. -/
def frontP (r : Nat) (v : ByteArray) (k : Nat) : ByteArray := v.extract 0 (min (k * r) v.size)
theorem frontP_zero (r : Nat) (v : ByteArray) : frontP r v 0 = ⟨#[]⟩ := by
  apply bytes_ext
  unfold frontP
  rw [ext_list9]
  simp
theorem frontP_succ {r k : Nat} {v : ByteArray} (hr : 0 < r) (hk : k < ceilD v.size r) : frontP r v (k + 1) = frontP r v k ++ piece r v k := by
  have h := piece_lt hr hk
  apply bytes_ext
  unfold frontP piece
  rw [ByteArray.data_append, Array.toList_append, ext_list9, ext_list9, ext_list9, List.drop_zero, Nat.sub_zero, Nat.sub_zero, Nat.add_mul, Nat.one_mul, Nat.min_eq_left (by omega : k * r ≤ v.size)]
  rw [← List.take_add]
  congr 1
  omega
theorem frontP_end {r : Nat} {v : ByteArray} (hr : 0 < r) : frontP r v (ceilD v.size r) = v := by
  have h := piece_end hr (Nat.lt_irrefl (ceilD v.size r))
  apply bytes_ext
  unfold frontP
  rw [ext_list9, Nat.min_eq_right h, List.drop_zero, Nat.sub_zero]
  exact List.take_of_length_le (by rw [size_list]; exact Nat.le_refl _)
theorem chunks_at {r i : Nat} {v : ByteArray} (hi : i < ceilD v.size r) : (chunks r v)[i]? = some (piece r v i) := by
  unfold chunks
  rw [List.getElem?_map, List.getElem?_range hi]
  rfl
/-- A part that another one follows is full. -/
theorem piece_full {r i : Nat} {v : ByteArray} (hr : 0 < r) (hi : i + 1 < ceilD v.size r) : (piece r v i).size = r := by
  have h := piece_lt hr hi
  rw [piece_size hr (by omega)]
  rw [Nat.add_mul, Nat.one_mul] at h
  omega
/-- The number of the page that follows. -/
def nextP (c n i : Nat) : Nat := if i + 1 < c then n + i + 1 else 0
theorem part_may {z n i : Nat} {v : ByteArray} (hz : goodSize z = true) (hv : v.size ≤ 4200) (hn : 2 ≤ n) (hn9 : n ≤ 1001) (hi : i < ceilD v.size (z - 24)) : mayP9 z (n + i) (nextP (ceilD v.size (z - 24)) n i) 3 (piece (z - 24) v i) = true := by
  obtain ⟨z', hzz, h1, h2, _⟩ := good_nat hz
  obtain rfl : z = z' := by omega
  have hr : 0 < z - 24 := by omega
  have h3 := piece_lt hr hi
  have hs := piece_size hr hi
  have hi9 : i < 4200 := by
    have : i * 1 ≤ i * (z - 24) := Nat.mul_le_mul_left _ hr
    omega
  unfold mayP9
  simp only [Bool.and_eq_true, Bool.or_eq_true, decide_eq_true_eq]
  refine ⟨hz, by omega, by omega, ?_, ?_, by omega⟩
  · unfold numB
    simp
    omega
  · unfold nextP
    split
    · rename_i h5
      right
      have := piece_full hr h5
      refine ⟨?_, by omega⟩
      unfold numB
      simp
      omega
    · left
      rfl
end Go.Proofs.YtabhhccdbfjigaaGreat
namespace Go.Proofs.YtabhhccdbfjigaaGreat
open Go.RowKit
open Go.Lib hiding intOf
set_option linter.unusedVariables false
set_option linter.unusedSimpArgs false

theorem nthU_take {l : List Nat} {k i : Nat} (h : i < k) : nthU (l.take k) i = nthU l i := by unfold nthU; rw [List.getElem?_take_of_lt h]
theorem nthU_drop {l : List Nat} {k i : Nat} : nthU (l.drop k) i = nthU l (k + i) := by unfold nthU; rw [List.getElem?_drop]
theorem ascU_take {l : List Nat} (h : ascU l = true) (k : Nat) : ascU (l.take k) = true := by
  rw [ascU_iff] at h ⊢
  intro i hi
  rw [List.length_take] at hi
  rw [nthU_take (by omega), nthU_take (by omega)]
  exact h i (by omega)
theorem ascU_drop {l : List Nat} (h : ascU l = true) (k : Nat) : ascU (l.drop k) = true := by
  rw [ascU_iff] at h ⊢
  intro i hi
  rw [List.length_drop] at hi
  rw [nthU_drop, nthU_drop]
  exact h (k + i) (by omega)
theorem allU_take {l : List Nat} (h : allU l = true) (k : Nat) : allU (l.take k) = true := by
  rw [allU_iff] at h ⊢
  exact fun n hn => h n (List.mem_of_mem_take hn)
theorem allU_drop {l : List Nat} (h : allU l = true) (k : Nat) : allU (l.drop k) = true := by
  rw [allU_iff] at h ⊢
  exact fun n hn => h n (List.mem_of_mem_drop hn)
/-- The first two swapped; the second one in the place of the first one. -/
def swapU (l : List Nat) : List Nat := (l.set 0 (nthU l 1)).set 1 (nthU l 0)
def dupU (l : List Nat) : List Nat := l.set 0 (nthU l 1)
theorem swapU_len (l : List Nat) : (swapU l).length = l.length := by simp [swapU]
theorem dupU_len (l : List Nat) : (dupU l).length = l.length := by simp [dupU]
theorem swapU_no {l : List Nat} (h : ascU l = true) (h2 : 2 ≤ l.length) : ascU (swapU l) = false := by
  have h1 : nthU l 0 < nthU l 1 := ascU_iff.1 h 0 (by omega)
  refine ascU_no (i := 0) (by rw [swapU_len]; omega) ?_
  have e0 : nthU (swapU l) 0 = nthU l 1 := nthU_of (by unfold swapU; rw [List.getElem?_set_ne (by decide), List.getElem?_set_self (by omega)])
  have e1 : nthU (swapU l) (0 + 1) = nthU l 0 := nthU_of (by unfold swapU; rw [List.getElem?_set_self (by rw [List.length_set]; omega)])
  rw [e0, e1]
  omega
theorem dupU_no {l : List Nat} (h2 : 2 ≤ l.length) : ascU (dupU l) = false := by
  refine ascU_no (i := 0) (by rw [dupU_len]; omega) ?_
  have e0 : nthU (dupU l) 0 = nthU l 1 := nthU_of (by unfold dupU; rw [List.getElem?_set_self (by omega)])
  have e1 : nthU (dupU l) (0 + 1) = nthU l 1 := nthU_of (by unfold dupU; rw [List.getElem?_set_ne (by decide)]; exact nthU_at (by omega))
  rw [e0, e1]
  omega
/-- Numbers one after the other. -/
def runU (N k : Nat) : List Nat := (List.range k).map (N + ·)
theorem runU_len (N k : Nat) : (runU N k).length = k := by simp [runU]
theorem runU_succ (N k : Nat) : runU N (k + 1) = runU N k ++ [N + k] := by unfold runU; rw [List.range_succ, List.map_append]; rfl
theorem runU_nth {N k i : Nat} (h : i < k) : nthU (runU N k) i = N + i := nthU_of (by unfold runU; rw [List.getElem?_map, List.getElem?_range h]; rfl)
theorem runU_asc (N k : Nat) : ascU (runU N k) = true := by
  rw [ascU_iff]
  intro i hi
  rw [runU_len] at hi
  rw [runU_nth (by omega), runU_nth (by omega)]
  omega
theorem runU_all {N k : Nat} (h : 2 ≤ N) (h2 : N + k ≤ 2147483648) : allU (runU N k) = true := by
  rw [allU_at]
  intro i hi
  rw [runU_len] at hi
  rw [runU_nth hi]
  unfold numB
  simp
  omega
theorem run_may {z N k : Nat} (hz : goodSize z = true) (h : 2 ≤ N) (h2 : N ≤ 1001) (hk : k ≤ 1100) : mayP10 z 2 0 0 (runU N k) = decide (k ≤ mostN z) := by
  unfold mayP10
  rw [hz, runU_all h (by omega), runU_asc, runU_len]
  simp [numB]
theorem need_one {z k : Nat} (hz : goodSize z = true) : decide (needF z k ≤ 1) = decide (k ≤ mostN z) := by
  obtain ⟨z', hzz, h1, h2, _⟩ := good_nat hz
  obtain rfl : z = z' := by omega
  have hm := mostN_good hz
  have hm0 : 0 < mostN z := by rw [hm]; omega
  have hk : (k : Int).toNat - 1 = k - 1 := by omega
  unfold needF
  rw [hz, Bool.true_and, hk]
  by_cases h1 : (1 : Int) ≤ k
  · rw [decide_eq_true h1, if_pos rfl]
    by_cases h3 : k ≤ mostN z
    · rw [decide_eq_true h3, Nat.div_eq_of_lt (by omega)]
      rfl
    · rw [decide_eq_false h3]
      have := Nat.div_pos (show mostN z ≤ k - 1 by omega) hm0
      exact decide_eq_false (by omega)
  · rw [decide_eq_false h1]
    have : k = 0 := by omega
    subst this
    simp
/-- The numbers that steps lead to, from a first one on; where they end. -/
def stepsU : Nat → List Nat → List Nat
  | _, [] => []
  | n, s :: t => n :: stepsU (n + 1 + s % 9) t
def endU : Nat → List Nat → Nat
  | n, [] => n
  | n, s :: t => endU (n + 1 + s % 9) t
theorem stepsU_len : ∀ (l : List Nat) (n : Nat), (stepsU n l).length = l.length
  | [], _ => rfl
  | s :: t, n => by simp [stepsU, stepsU_len t]
theorem stepsU_snoc : ∀ (l : List Nat) (n s : Nat), stepsU n (l ++ [s]) = stepsU n l ++ [endU n l] ∧ endU n (l ++ [s]) = endU n l + 1 + s % 9
  | [], n, s => ⟨rfl, rfl⟩
  | a :: t, n, s => by
    obtain ⟨h1, h2⟩ := stepsU_snoc t (n + 1 + a % 9) s
    simp only [List.cons_append, stepsU, endU]
    exact ⟨by rw [h1], h2⟩
theorem endU_le : ∀ (l : List Nat) (n : Nat), n + l.length ≤ endU n l ∧ endU n l ≤ n + 9 * l.length
  | [], n => ⟨Nat.le_refl _, Nat.le_refl _⟩
  | s :: t, n => by
    have := endU_le t (n + 1 + s % 9)
    simp only [endU, List.length_cons]
    omega
theorem stepsU_from : ∀ (l : List Nat) (n i : Nat), i < l.length → n + i ≤ nthU (stepsU n l) i ∧ nthU (stepsU n l) i ≤ n + 9 * i
  | s :: t, n, 0, _ => by simp [stepsU, nthU]
  | s :: t, n, i + 1, h => by
    have := stepsU_from t (n + 1 + s % 9) i (by simpa using h)
    have e : nthU (stepsU n (s :: t)) (i + 1) = nthU (stepsU (n + 1 + s % 9) t) i := rfl
    rw [e]
    omega
theorem stepsU_asc : ∀ (l : List Nat) (n i : Nat), i + 1 < l.length → nthU (stepsU n l) i < nthU (stepsU n l) (i + 1)
  | s :: t, n, 0, h => by
    have := stepsU_from t (n + 1 + s % 9) 0 (by simpa using h)
    have e : nthU (stepsU n (s :: t)) (0 + 1) = nthU (stepsU (n + 1 + s % 9) t) 0 := rfl
    have e0 : nthU (stepsU n (s :: t)) 0 = n := rfl
    rw [e, e0]
    omega
  | s :: t, n, i + 1, h => stepsU_asc t (n + 1 + s % 9) i (by simpa using h)
theorem stepsU_good {l : List Nat} {n : Nat} (h : 2 ≤ n) (h2 : n ≤ 1001) (hl : l.length ≤ 26) : allU (stepsU n l) = true ∧ ascU (stepsU n l) = true := by
  constructor
  · rw [allU_at]
    intro i hi
    rw [stepsU_len] at hi
    have := stepsU_from l n i hi
    unfold numB
    simp
    omega
  · rw [ascU_iff]
    intro i hi
    rw [stepsU_len] at hi
    exact stepsU_asc l n i hi
end Go.Proofs.YtabhhccdbfjigaaGreat
namespace Go.Proofs.YtabhhccdbfjigaaGreat
open Go.RowKit
open Go.Lib hiding intOf
set_option linter.unusedVariables false
set_option linter.unusedSimpArgs false
attribute [local go_sem ↓] Go.wp_at_zero Go.wp_at_succ

theorem nthU_get {l : List Nat} {i : Nat} (h : i < l.length) : nthU l i = l[i] := nthU_of (List.getElem?_eq_getElem h)
theorem fineL_iff {l : List Nat} : fineL l = true ↔ ∀ j, j < l.length → numB (nthU l j) = true ∧ ∀ m, m < j → nthU l m ≠ nthU l j := by
  unfold fineL
  rw [Bool.and_eq_true, decide_eq_true_eq]
  constructor
  · rintro ⟨h1, h2⟩ j hj
    refine ⟨allU_at.1 h1 j hj, fun m hm => ?_⟩
    have h3 := (List.pairwise_iff_getElem.1 h2) m j (by omega) hj hm
    rw [nthU_get (by omega), nthU_get hj]
    exact h3
  · intro h
    refine ⟨allU_at.2 fun i hi => (h i hi).1, List.pairwise_iff_getElem.2 fun i j hi hj hij => ?_⟩
    have := (h j hj).2 i hij
    rw [nthU_get hi, nthU_get hj] at this
    exact this
theorem fineL_no {l : List Nat} {j : Nat} (hj : j < l.length) (h : numB (nthU l j) = false ∨ ∃ m, m < j ∧ nthU l m = nthU l j) : fineL l = false := by
  rw [Bool.eq_false_iff]
  intro hf
  obtain ⟨h1, h2⟩ := fineL_iff.1 hf j hj
  rcases h with h | ⟨m, hm, he⟩
  · rw [h] at h1; cases h1
  · exact h2 m hm he
end Go.Proofs.YtabhhccdbfjigaaGreat
