/-
  Texts that the main proof rests on, put together: FkBack, ItParse, Tr. No statement is proved here.
-/
import Derived.Test.YtmmjckokjmpfpaaGreatJ11
import Derived.Test.YtmmjckokjmpfpaaGreatJ10
set_option linter.unusedVariables false
set_option linter.unusedSimpArgs false
namespace Go.Proofs.YtmmjckokjmpfpaaGreat
open Go.RowKit
open Go.Lib hiding intOf

theorem leBytes_leNat : ∀ l : List UInt8, leBytes l.length (leNat l) = l
 | [] => rfl
 | b :: t => by
  have hb := b.toNat_lt
  have h1 : (leNat (b :: t)) / 256 = leNat t := by simp only [leNat]; omega
  have h2 : (leNat (b :: t)) % 256 = b.toNat := by simp only [leNat]; omega
  rw [List.length_cons, leBytes, h1, leBytes_leNat t]
  congr 1
  apply UInt8.toNat_inj.1
  first
   | (rw [h2]; simp)
   | (simp [h2])
theorem stepF_back {bs r : List UInt8} {b : Fk} (h : stepF bs = some (b, r)) : bs = b.bytes ++ r := by
 cases bs with
 | nil => simp [stepF] at h
 | cons n t =>
  simp only [stepF] at h
  split at h
  ·cases h
  ·rename_i hl
   injection h with h
   injection h with h1 h2
   subst h1 h2
   have hs : (t.take n.toNat).toArray.size = n.toNat := by simp; omega
   have e1 : leBytes 1 n.toNat = [n] := by
    have := leBytes_leNat [n]
    simpa [leNat] using this
   have e4 : leBytes 4 (leNat ((t.drop n.toNat).take 4)) = (t.drop n.toNat).take 4 := by
    have := leBytes_leNat ((t.drop n.toNat).take 4)
    rwa [show ((t.drop n.toNat).take 4).length = 4 by simp; omega] at this
   have hz : (⟨(t.take n.toNat).toArray⟩ : ByteArray).size = n.toNat := hs
   simp only [Fk.bytes, e4]
   rw [hz, e1]
   simp only [List.cons_append, List.nil_append, List.append_assoc, List.take_append_drop]
theorem parseF_back : ∀ {k : Nat} {bs : List UInt8} {l : List Fk} {r : List UInt8}, parseF k bs = some (l, r) → bs = bytesF l ++ r
 | 0, bs, l, r, h => by simp [parseF] at h; obtain ⟨rfl, rfl⟩ := h; simp [bytesF]
 | k + 1, bs, l, r, h => by
  simp only [parseF] at h
  split at h
  ·cases h
  ·rename_i l0 r0 h0
   split at h
   ·cases h
   ·rename_i b r1 hs
    injection h with h
    injection h with h1 h2
    subst h1 h2
    rw [parseF_back h0, stepF_back hs]
    simp [bytesF]
theorem zeros_rep : ∀ {l : List UInt8}, zeros l = true → l = List.replicate l.length 0
 | [], _ => rfl
 | b :: t, h => by
  simp only [zeros, List.all_cons, Bool.and_eq_true, beq_iff_eq] at h
  rw [List.length_cons, List.replicate_succ, ← zeros_rep (l := t) h.2, h.1]
theorem zeros_of_rep (n : Nat) : zeros (List.replicate n (0 : UInt8)) = true := by simp [zeros]
def forksF (ct : Int) (bd : List UInt8) : Option (List Fk) :=
 match parseF ct.toNat bd with
 | none => none
 | some (l, r) => if mayF l && zeros r then some l else none
def headF (kd : Int) (pg lk ty : Nat) (bd : ByteArray) : Bool := decide (kd = 3) && (decide (lk = 0) && (numB pg && (decide (ty ≤ 4611686018427387904) && goodSize ((bd.size + 24 : Nat) : Int))))
theorem readF_is (kd ct : Int) (pg lk ty : Nat) (bd : ByteArray) : readF kd ct pg lk ty bd = if headF kd pg lk ty bd then forksF ct bd.data.toList else none := by
 rw [readF, forksF]
 rcases hp : parseF ct.toNat bd.data.toList with _ | ⟨l, r⟩
 ·simp
 ·have hs := parseF_size hp
  have hb := parseF_back hp
  have hl := parseF_len hp
  rw [size_list] at hs
  have key : (mayP7 ((bd.size + 24 : Nat) : Int) pg ty l && decide (kd = 3 ∧ ct = l.length ∧ lk = 0 ∧ bd = forkBody (bd.size + 24) l)) = (headF kd pg lk ty bd && (mayF l && zeros r)) := by
   have hfit : decide ((sizeF l : Int) ≤ ((bd.size + 24 : Nat) : Int) - 24) = true := by simp; omega
   rw [mayP7, hfit, headF]
   rcases hm : mayF l with _ | _
   ·simp
   ·have hpos : 0 < l.length := by simp only [mayF, Bool.and_eq_true, decide_eq_true_eq] at hm; exact hm.2
    have hct : ct = l.length := by omega
    have hbd : (bd = forkBody (bd.size + 24) l) ↔ zeros r = true := by
     have hr : bd.size + 24 - 24 - sizeF l = r.length := by omega
     constructor
     ·intro h
      have h1 : bd.data.toList = bytesF l ++ List.replicate (bd.size + 24 - 24 - sizeF l) 0 := by
       have : (forkBody (bd.size + 24) l).data.toList = bytesF l ++ List.replicate (bd.size + 24 - 24 - sizeF l) 0 := by simp [forkBody]
       rw [← this, ← h]
      rw [hb] at h1
      rw [List.append_cancel_left h1]
      exact zeros_of_rep _
     ·intro h
      apply bytes_ext
      have : (forkBody (bd.size + 24) l).data.toList = bytesF l ++ List.replicate (bd.size + 24 - 24 - sizeF l) 0 := by simp [forkBody]
      rw [this, hb, hr, ← zeros_rep h]
    rw [Bool.eq_iff_iff]
    simp only [Bool.and_eq_true, decide_eq_true_eq, Bool.true_and, true_and]
    rw [hbd]
    constructor
    ·rintro ⟨⟨a1, a2, a3⟩, a4, a5, a6, a7⟩
     exact ⟨⟨a4, a6, a2, a3, a1⟩, a7⟩
    ·rintro ⟨⟨a4, a6, a2, a3, a1⟩, a7⟩
     exact ⟨⟨a1, a2, a3⟩, a4, hct, a6, a7⟩
  simp only [key]
  rcases headF kd pg lk ty bd with _ | _ <;> simp
end Go.Proofs.YtmmjckokjmpfpaaGreat

namespace Go.Proofs.YtmmjckokjmpfpaaGreat
open Go.RowKit
open Go.Lib hiding intOf

def It.tail (b : It) : List UInt8 := if b.ov then leBytes 4 b.ln.toNat ++ leBytes 4 b.hd else leBytes 1 b.vl.size ++ b.vl.data.toList
def It.bytes (b : It) : List UInt8 := leBytes 1 (if b.ov then 1 else 0) ++ (leBytes 1 b.ky.size ++ (b.ky.data.toList ++ b.tail))
def bytesI (l : List It) : List UInt8 := l.flatMap It.bytes
theorem It.bytes_len (b : It) : b.bytes.length = oneI b := by
 unfold It.bytes It.tail oneI
 split
 ·simp only [List.length_append, leB_len, size_list]; omega
 ·simp only [List.length_append, leB_len, size_list]; omega
theorem bytesI_len (l : List It) : (bytesI l).length = sizeI l := by
 induction l with
 | nil => rfl
 | cons b l ih =>
  simp only [bytesI, List.flatMap_cons, List.length_append, It.bytes_len, sizeI] at ih ⊢
  rw [ih]
theorem bytesI_take_succ {l : List It} {k : Nat} {x : It} (h : l[k]? = some x) : bytesI (l.take (k + 1)) = bytesI (l.take k) ++ x.bytes := by
 obtain ⟨hk, rfl⟩ := List.getElem?_eq_some_iff.1 h
 rw [List.take_succ_eq_append_getElem hk]
 simp only [bytesI, List.flatMap_append, List.flatMap_cons, List.flatMap_nil, List.append_nil]
def itemBody (size : Nat) (l : List It) : ByteArray := ⟨(bytesI l ++ List.replicate (size - 24 - sizeI l) 0).toArray⟩
def tailI (o : UInt8) (ky : ByteArray) (r : List UInt8) : Option (It × List UInt8) :=
 if o = 0 then (match r with
  | [] => none
  | m :: t => if t.length < m.toNat then none else some (⟨ky, ⟨(t.take m.toNat).toArray⟩, false, 0, 0⟩, t.drop m.toNat))
 else if o = 1 then (if r.length < 8 then none else some (⟨ky, ⟨#[]⟩, true, (leNat (r.take 4) : Nat), leNat ((r.drop 4).take 4)⟩, (r.drop 4).drop 4))
 else none
def stepI : List UInt8 → Option (It × List UInt8)
 | [] => none
 | [_] => none
 | o :: n :: r => if r.length < n.toNat then none else tailI o ⟨(r.take n.toNat).toArray⟩ (r.drop n.toNat)
def parseI : Nat → List UInt8 → Option (List It × List UInt8)
 | 0, bs => some ([], bs)
 | k + 1, bs => match parseI k bs with
  | none => none
  | some (l, r) => match stepI r with
   | none => none
   | some (b, r') => some (l ++ [b], r')
theorem leBytes_one (n : UInt8) : leBytes 1 n.toNat = [n] := by
 have := leBytes_leNat [n]
 simpa [leNat] using this
theorem tailI_back {o : UInt8} {ky : ByteArray} {r r' : List UInt8} {b : It} (h : tailI o ky r = some (b, r')) : b.ky = ky ∧ o.toNat = (if b.ov then 1 else 0) ∧ r = b.tail ++ r' := by
 unfold tailI at h
 split at h
 ·rename_i ho
  split at h
  ·cases h
  ·rename_i m t
   split at h
   ·cases h
   ·rename_i hl
    injection h with h
    injection h with h1 h2
    subst h1 h2
    refine ⟨rfl, by rw [ho]; rfl, ?_⟩
    have hz : (⟨(t.take m.toNat).toArray⟩ : ByteArray).size = m.toNat := by
     show (t.take m.toNat).toArray.size = m.toNat
     simp; omega
    simp only [It.tail, Bool.false_eq_true, if_false]
    rw [hz, leBytes_one]
    simp only [List.cons_append, List.nil_append, List.append_assoc, List.take_append_drop]
 ·split at h
  ·rename_i ho
   split at h
   ·cases h
   ·rename_i hl
    injection h with h
    injection h with h1 h2
    subst h1 h2
    refine ⟨rfl, by rw [ho]; rfl, ?_⟩
    have e1 : leBytes 4 (leNat (r.take 4)) = r.take 4 := by
     have := leBytes_leNat (r.take 4)
     rwa [show (r.take 4).length = 4 by simp; omega] at this
    have e2 : leBytes 4 (leNat ((r.drop 4).take 4)) = (r.drop 4).take 4 := by
     have := leBytes_leNat ((r.drop 4).take 4)
     rwa [show ((r.drop 4).take 4).length = 4 by simp; omega] at this
    simp only [It.tail, if_true, Int.toNat_natCast, e1, e2, List.append_assoc, List.take_append_drop]
  ·cases h
theorem stepI_back {bs r : List UInt8} {b : It} (h : stepI bs = some (b, r)) : bs = b.bytes ++ r := by
 match bs, h with
 | [], h => simp [stepI] at h
 | [_], h => simp [stepI] at h
 | o :: n :: t, h =>
  simp only [stepI] at h
  split at h
  ·cases h
  ·rename_i hl
   obtain ⟨h1, h2, h3⟩ := tailI_back h
   have hz : (⟨(t.take n.toNat).toArray⟩ : ByteArray).size = n.toNat := by
    show (t.take n.toNat).toArray.size = n.toNat
    simp; omega
   simp only [It.bytes, h1, ← h2]
   rw [hz, leBytes_one, leBytes_one]
   simp only [List.cons_append, List.nil_append, List.append_assoc, ← h3, List.take_append_drop]
theorem sizeI_mem {l : List It} {b : It} (h : b ∈ l) : oneI b ≤ sizeI l := by
 induction l with
 | nil => cases h
 | cons c l ih =>
  simp only [sizeI]
  rcases List.mem_cons.1 h with rfl | h
  ·omega
  ·have := ih h; omega
theorem tailI_vl {o : UInt8} {ky : ByteArray} {r r' : List UInt8} {b : It} (h : tailI o ky r = some (b, r')) : b.ov = true → b.vl.size = 0 := by
 unfold tailI at h
 split at h
 ·split at h
  ·cases h
  ·split at h
   ·cases h
   ·injection h with h
    injection h with h1 h2
    subst h1
    intro hb
    cases hb
 ·split at h
  ·split at h
   ·cases h
   ·injection h with h
    injection h with h1 h2
    subst h1
    intro _
    rfl
  ·cases h
theorem stepI_vl {bs r : List UInt8} {b : It} (h : stepI bs = some (b, r)) : b.ov = true → b.vl.size = 0 := by
 match bs, h with
 | [], h => simp [stepI] at h
 | [_], h => simp [stepI] at h
 | o :: n :: t, h =>
  simp only [stepI] at h
  split at h
  ·cases h
  ·exact tailI_vl h
theorem tailI_bytes (b : It) (t : List UInt8) (h : okIt b = true) : tailI (if b.ov then 1 else 0) b.ky (b.tail ++ t) = some (b, t) := by
 obtain ⟨ky, vl, ov, ln, hd⟩ := b
 cases ov
 ·simp only [okIt, keyF, Bool.false_eq_true, if_false, Bool.and_eq_true, decide_eq_true_eq] at h
  obtain ⟨_, hv, hln, hhd⟩ := h
  subst hln hhd
  have e1 : leBytes 1 vl.size = [UInt8.ofNat vl.size] := by
   have := leBytes_one (UInt8.ofNat vl.size)
   rwa [show (UInt8.ofNat vl.size).toNat = vl.size by simp; omega] at this
  have hn : (UInt8.ofNat vl.size).toNat = vl.size := by simp; omega
  have hl : vl.data.toList.length = vl.size := size_list _
  simp only [It.tail, tailI, Bool.false_eq_true, if_false, e1, List.cons_append, List.nil_append, hn, if_true]
  rw [if_neg (by simp only [List.length_append, hl]; omega), List.take_left' hl, List.drop_left' hl]
 ·simp only [okIt, keyF, numB, if_true, Bool.and_eq_true, decide_eq_true_eq] at h
  obtain ⟨_, hv, hl1, hl2, hh⟩ := h
  have l4 : ∀ v, (leBytes 4 v).length = 4 := fun v => leB_len 4 v
  have hve : vl = ⟨#[]⟩ := by
   apply bytes_ext
   have : vl.data.toList.length = 0 := by rw [size_list]; exact hv
   rw [List.eq_nil_of_length_eq_zero this]
  subst hve
  have r1 : leNat (leBytes 4 ln.toNat) = ln.toNat := by rw [leNat_leBytes_mod]; omega
  have r2 : leNat (leBytes 4 hd) = hd := by rw [leNat_leBytes_mod]; omega
  simp only [It.tail, tailI, if_true, List.append_assoc]
  rw [if_neg (by decide), if_neg (by simp only [List.length_append, l4]; omega), List.take_left' (l4 _), List.drop_left' (l4 _), List.take_left' (l4 _), List.drop_left' (l4 _), r1, r2]
  congr 2
  exact It.ext_ rfl rfl rfl (by show ((ln.toNat : Nat) : Int) = ln; omega) rfl
theorem okIt_key {b : It} (h : okIt b = true) : b.ky.size ≤ 40 := by
 unfold okIt at h
 split at h <;> simp only [keyF, Bool.and_eq_true, decide_eq_true_eq] at h <;> exact h.1
theorem stepI_bytes (b : It) (t : List UInt8) (h : okIt b = true) : stepI (b.bytes ++ t) = some (b, t) := by
 have hk := okIt_key h
 have e1 : leBytes 1 b.ky.size = [UInt8.ofNat b.ky.size] := by
  have := leBytes_one (UInt8.ofNat b.ky.size)
  rwa [show (UInt8.ofNat b.ky.size).toNat = b.ky.size by simp; omega] at this
 have e0 : leBytes 1 (if b.ov then 1 else 0) = [if b.ov then 1 else 0] := by cases b.ov <;> rfl
 have hn : (UInt8.ofNat b.ky.size).toNat = b.ky.size := by simp; omega
 have hl : b.ky.data.toList.length = b.ky.size := size_list _
 have hkk : (⟨b.ky.data.toList.toArray⟩ : ByteArray) = b.ky := by apply bytes_ext; simp
 simp only [It.bytes, e0, e1, List.cons_append, List.nil_append, List.append_assoc, stepI, hn]
 rw [if_neg (by simp only [List.length_append, hl]; omega), List.take_left' hl, List.drop_left' hl, hkk, tailI_bytes b t h]
theorem parseI_bytes (l : List It) (t : List UInt8) (h : ∀ b, b ∈ l → okIt b = true) : ∀ k, k ≤ l.length → parseI k (bytesI l ++ t) = some (l.take k, bytesI (l.drop k) ++ t)
 | 0, _ => by simp [parseI]
 | k + 1, hk => by
  have ih := parseI_bytes l t h k (by omega)
  have hx : l.drop k = l[k] :: l.drop (k + 1) := List.drop_eq_getElem_cons (by omega)
  have hs : stepI (bytesI (l.drop k) ++ t) = some (l[k], bytesI (l.drop (k + 1)) ++ t) := by
   rw [hx]
   simp only [bytesI, List.flatMap_cons, List.append_assoc]
   exact stepI_bytes l[k] _ (h _ (List.getElem_mem _))
  simp only [parseI, ih, hs]
  rw [List.take_succ_eq_append_getElem (by omega)]
theorem parseI_all (l : List It) (t : List UInt8) (h : ∀ b, b ∈ l → okIt b = true) : parseI l.length (bytesI l ++ t) = some (l, t) := by
 have := parseI_bytes l t h l.length (Nat.le_refl _)
 simpa [bytesI] using this
def mayP8 (size : Int) (n tx : Nat) (l : List It) : Bool := goodSize size && (mayI l && (decide ((sizeI l : Int) ≤ size - 24) && (numB n && decide (tx ≤ 4611686018427387904))))
def readI (kd ct : Int) (pg lk ty : Nat) (bd : ByteArray) : Option (List It) :=
 match parseI ct.toNat bd.data.toList with
 | none => none
 | some (l, _) => if mayP8 ((bd.size + 24 : Nat) : Int) pg ty l && decide (kd = 4 ∧ ct = l.length ∧ lk = 0 ∧ bd = itemBody (bd.size + 24) l) then some l else none
theorem mayP8_parts {z n tx : Nat} {l : List It} (h : mayP8 z n tx l = true) : allOkI l = true ∧ 0 < l.length ∧ goodSize z = true ∧ (sizeI l ≤ z - 24 ∧ 24 ≤ z) ∧ (2 ≤ n ∧ n ≤ 2147483647) ∧ tx ≤ 4611686018427387904 := by
 simp only [mayP8, mayI, numB, Bool.and_eq_true, decide_eq_true_eq] at h
 obtain ⟨h1, ⟨h2, h3⟩, h4, h5, h6⟩ := h
 have := good_pos h1
 exact ⟨h2, h3, h1, by omega, h5, h6⟩
theorem itemBody_size (z : Nat) (l : List It) (h : sizeI l ≤ z - 24) : (itemBody z l).size = z - 24 := by
 show (bytesI l ++ List.replicate (z - 24 - sizeI l) 0).toArray.size = _
 rw [List.size_toArray, List.length_append, List.length_replicate, bytesI_len]
 omega
theorem allOkI_mem {l : List It} (h : allOkI l = true) {b : It} (hb : b ∈ l) : okIt b = true := by
 obtain ⟨i, hi, rfl⟩ := List.mem_iff_getElem.1 hb
 exact allOkI_ok h (List.getElem?_eq_getElem hi)
theorem readI_page {z n tx : Nat} {l : List It} (h : mayP8 z n tx l = true) : readI 4 l.length n 0 tx (itemBody z l) = some l := by
 obtain ⟨hall, h0, hg, hroom, hn, htx⟩ := mayP8_parts h
 have hgp := good_pos hg
 have hsz := itemBody_size z l hroom.1
 have hz : (itemBody z l).size + 24 = z := by omega
 unfold readI
 have hp : parseI (l.length : Int).toNat (itemBody z l).data.toList = some (l, List.replicate (z - 24 - sizeI l) 0) := by
  show parseI l.length _ = _
  have : (itemBody z l).data.toList = bytesI l ++ List.replicate (z - 24 - sizeI l) 0 := by simp [itemBody]
  rw [this]
  exact parseI_all l _ fun b hb => allOkI_mem hall hb
 simp only [hp, hz]
 rw [if_pos (by rw [h]; simp)]
theorem readI_some {kd ct : Int} {pg lk ty : Nat} {bd : ByteArray} {l : List It} (h : readI kd ct pg lk ty bd = some l) : mayP8 ((bd.size + 24 : Nat) : Int) pg ty l = true ∧ kd = 4 ∧ ct = l.length ∧ lk = 0 ∧ bd = itemBody (bd.size + 24) l := by
 unfold readI at h
 split at h
 ·cases h
 ·split at h
  ·rename_i hc
   injection h with h
   subst h
   rw [Bool.and_eq_true, decide_eq_true_eq] at hc
   exact ⟨hc.1, hc.2⟩
  ·cases h
end Go.Proofs.YtmmjckokjmpfpaaGreat

namespace Go.Proofs.YtmmjckokjmpfpaaGreat
open Go.RowKit
open Go.Lib hiding intOf

structure Pr where
 ky : ByteArray
 vl : ByteArray
def Pr.cells (b : Pr) : List Value := [.string b.ky, .string b.vl]
theorem Pr.cells_len (b : Pr) : b.cells.length = 2 := rfl
def Pr.zero : Pr := ⟨⟨#[]⟩, ⟨#[]⟩⟩
def prc (l : List Pr) : List Value := rowsOf Pr.cells l
theorem prc_snoc (l : List Pr) (b : Pr) : prc l ++ b.cells = prc (l ++ [b]) := by simp [prc, rowsOf]
theorem prc_append (l m : List Pr) : prc (l ++ m) = prc l ++ prc m := rowsOf_append l m
inductive Nd where
 | none
 | br (l : List Fk)
 | lf (l : List It)
def Pg.node (p : Pg) : Nd := match readF p.kd p.ct p.pg p.lk p.tx p.bd with
 | some l => .br l
 | none => match readI p.kd p.ct p.pg p.lk p.tx p.bd with
  | some l => .lf l
  | none => .none
def nodeN (size : Int) (s : ByteArray) (n : Nat) : Nd := match readAt size s n with
 | some p => p.node
 | none => .none
def valN (size : Int) (s : ByteArray) (i : It) : Option (ByteArray × List Nat) := if i.ov then readV size s i.hd i.ln else some (i.vl, [])
def visitL (L : List Nat) : List Nat → Option (List Nat)
 | [] => some L
 | n :: t => if n ∈ L then none else visitL (L ++ [n]) t
theorem visitL_some : ∀ {t L M : List Nat}, visitL L t = some M → M = L ++ t
 | [], L, M, h => by simp [visitL] at h; simp [h]
 | n :: t, L, M, h => by
  simp only [visitL] at h
  split at h
  ·cases h
  ·rw [visitL_some h]; simp
theorem visitL_snoc : ∀ (t : List Nat) (L : List Nat) (n : Nat), visitL L (t ++ [n]) = match visitL L t with | some M => if n ∈ M then none else some (M ++ [n]) | none => none
 | [], L, n => by simp only [List.nil_append, visitL]
 | m :: t, L, n => by
  simp only [List.cons_append, visitL]
  split
  ·rfl
  ·exact visitL_snoc t _ n
theorem visitL_none {t : List Nat} {L : List Nat} (h : visitL L t = none) : ∀ u, visitL L (t ++ u) = none := by
 intro u
 induction u generalizing t with
 | nil => simpa using h
 | cons n u ih =>
  rw [show t ++ n :: u = (t ++ [n]) ++ u by simp]
  exact ih (by rw [visitL_snoc, h])
theorem visitL_front {t : List Nat} {L : List Nat} {k : Nat} (h : visitL L (t.take k) = none) : visitL L t = none := by
 have := visitL_none h (t.drop k)
 rwa [List.take_append_drop] at this
theorem visitL_nodup : ∀ {t L M : List Nat}, L.Nodup → visitL L t = some M → M.Nodup
 | [], L, M, hn, h => by simp [visitL] at h; exact h ▸ hn
 | n :: t, L, M, hn, h => by
  simp only [visitL] at h
  split at h
  ·cases h
  ·rename_i hm
   refine visitL_nodup ?_ h
   rw [List.nodup_append]
   exact ⟨hn, by simp, fun a ha b hb => by simp at hb; subst hb; exact fun e => hm (e ▸ ha)⟩
theorem visitL_ok : ∀ {t L : List Nat}, (L ++ t).Nodup → visitL L t = some (L ++ t)
 | [], L, _ => by simp [visitL]
 | n :: t, L, h => by
  have h1 : n ∉ L := fun hm => by
   rw [List.nodup_append] at h
   exact h.2.2 n hm n (by simp) rfl
  simp only [visitL, if_neg h1]
  rw [visitL_ok (by simpa using h)]
  simp
abbrev Tv := List Pr × Option (List Nat)
def itemsT (size : Int) (s : ByteArray) : List It → List Nat → Tv
 | [], L => ([], some L)
 | i :: t, L => match valN size s i with
  | none => ([], none)
  | some (v, ps) => match visitL L ps with
   | none => ([], none)
   | some M => (⟨i.ky, v⟩ :: (itemsT size s t M).1, (itemsT size s t M).2)
def forksT (f : Nat → List Nat → Tv) : List Fk → List Nat → Tv
 | [], L => ([], some L)
 | b :: t, L => match (f b.rt L).2 with
  | none => ((f b.rt L).1, none)
  | some M => ((f b.rt L).1 ++ (forksT f t M).1, (forksT f t M).2)
def trav (size : Int) (s : ByteArray) : Nat → Nat → List Nat → Tv
 | 0, _, _ => ([], none)
 | d + 1, n, L => if n ∈ L then ([], none) else match nodeN size s n with
  | .none => ([], none)
  | .lf l => itemsT size s l (L ++ [n])
  | .br l => forksT (trav size s d) l (L ++ [n])
def treeV (size : Int) (s : ByteArray) (root : Nat) : Tv := if goodSize size then (if root = 0 then ([], some []) else trav size s 16 root []) else ([], none)
def treeE (size : Int) (s : ByteArray) (root : Nat) : Int := if goodSize size then (if (treeV size s root).2.isSome then 0 else 4) else 2
def descT (size : Int) (s : ByteArray) (key : ByteArray) : Nat → Nat → List Nat → Option (List Nat × List It)
 | 0, _, _ => none
 | d + 1, n, P => if n ∈ P then none else match nodeN size s n with
  | .none => none
  | .lf l => some (P ++ [n], l)
  | .br l => descT size s key d ((l[pickF l key]?.map (·.rt)).getD 0) (P ++ [n])
def pathV (size : Int) (s : ByteArray) (root : Nat) (key : ByteArray) : Option (List Nat × List It) := if goodSize size then (if root = 0 then some ([], []) else descT size s key 16 root []) else none
def pathE (size : Int) (s : ByteArray) (root : Nat) (key : ByteArray) : Int := if goodSize size then (if (pathV size s root key).isSome then 0 else 4) else 2
def pathL (size : Int) (s : ByteArray) (root : Nat) (key : ByteArray) : List Nat := ((pathV size s root key).map (·.1)).getD []
def pathI (size : Int) (s : ByteArray) (root : Nat) (key : ByteArray) : List It := ((pathV size s root key).map (·.2)).getD []
def getV (size : Int) (s : ByteArray) (root : Nat) (key : ByteArray) : ByteArray × Int :=
 if pathE size s root key ≠ 0 then (⟨#[]⟩, pathE size s root key)
 else if findB (pathI size s root key) key then (match (pathI size s root key)[findN (pathI size s root key) key]? with
  | some i => match valN size s i with
   | some (v, _) => (v, 0)
   | none => (⟨#[]⟩, 4)
  | none => (⟨#[]⟩, 5))
 else (⟨#[]⟩, 5)
def stepsT (l : List Pr) (e : Int) : List (Pr × Int) := l.map (fun p => (p, 0)) ++ (if e = 0 then [] else [(Pr.zero, e)])

theorem node_some {size : Int} {s : ByteArray} {n : Nat} {l : List Fk} (h : nodeN size s n = .br l) : ∃ p, readAt size s n = some p ∧ readF p.kd p.ct p.pg p.lk p.tx p.bd = some l := by
 unfold nodeN at h
 split at h
 ·rename_i p hp
  refine ⟨p, hp, ?_⟩
  unfold Pg.node at h
  split at h
  ·rename_i l' hl
   injection h with h
   rw [hl, h]
  ·split at h <;> cases h
 ·cases h
theorem leaf_some {size : Int} {s : ByteArray} {n : Nat} {l : List It} (h : nodeN size s n = .lf l) : ∃ p, readAt size s n = some p ∧ readF p.kd p.ct p.pg p.lk p.tx p.bd = none ∧ readI p.kd p.ct p.pg p.lk p.tx p.bd = some l := by
 unfold nodeN at h
 split at h
 ·rename_i p hp
  refine ⟨p, hp, ?_⟩
  unfold Pg.node at h
  split at h
  ·cases h
  ·rename_i h1
   split at h
   ·rename_i l' hl
    injection h with h
    exact ⟨h1, by rw [hl, h]⟩
   ·cases h
 ·cases h
theorem readF_kd {kd ct : Int} {pg lk ty : Nat} {bd : ByteArray} {l : List Fk} (h : readF kd ct pg lk ty bd = some l) : kd = 3 ∧ 2 ≤ pg ∧ 0 < l.length ∧ allOkF l = true := by
 unfold readF at h
 split at h
 ·cases h
 ·split at h
  ·rename_i hc
   injection h with h
   subst h
   simp only [Bool.and_eq_true, decide_eq_true_eq] at hc
   obtain ⟨h1, h2, _, _, h5, _⟩ := mayP7_parts hc.1
   exact ⟨hc.2.1, h5.1, h2, h1⟩
  ·cases h
theorem readI_kd {kd ct : Int} {pg lk ty : Nat} {bd : ByteArray} {l : List It} (h : readI kd ct pg lk ty bd = some l) : kd = 4 ∧ 2 ≤ pg ∧ 0 < l.length ∧ allOkI l = true ∧ sizeI l ≤ bd.size := by
 obtain ⟨h1, h2, _, _, _⟩ := readI_some h
 obtain ⟨a1, a2, _, a4, a5, _⟩ := mayP8_parts h1
 exact ⟨h2, a5.1, a2, a1, by omega⟩
theorem node_two {size : Int} {s : ByteArray} {n : Nat} (h : n < 2) : nodeN size s n = .none := by
 rcases hn : nodeN size s n with _ | l | l
 ·rfl
 ·obtain ⟨p, hp, hf⟩ := node_some hn
  have h1 := (readAt_some hp).2.2.1
  have h2 := (readF_kd hf).2.1
  omega
 ·obtain ⟨p, hp, _, hf⟩ := leaf_some hn
  have h1 := (readAt_some hp).2.2.1
  have h2 := (readI_kd hf).2.1
  omega
end Go.Proofs.YtmmjckokjmpfpaaGreat

