/-
  Texts that the main proof rests on, put together: ItParse, Tr, Lay, OvMath, OvMath3, FnMath. No statement is proved here.
-/
import Derived.Test.YtmmjckokjmpfpaaGreatJ9
import Derived.Test.YtmmjckokjmpfpaaGreatJ8
import Derived.Test.YtmmjckokjmpfpaaGreatJ7
import Derived.Test.YtmmjckokjmpfpaaGreatJ2
set_option linter.unusedVariables false
set_option linter.unusedSimpArgs false
namespace Go.Proofs.YtmmjckokjmpfpaaGreat
open Go.RowKit
open Go.Lib hiding intOf

def It.tail (b : It) : List UInt8 := if b.ov then Go.leBytes 4 b.ln.toNat ++ Go.leBytes 4 b.hd else Go.leBytes 1 b.vl.size ++ b.vl.data.toList
def It.bytes (b : It) : List UInt8 := Go.leBytes 1 (if b.ov then 1 else 0) ++ (Go.leBytes 1 b.ky.size ++ (b.ky.data.toList ++ b.tail))
def bytesI (l : List It) : List UInt8 := l.flatMap It.bytes
theorem It.bytes_len (b : It) : b.bytes.length = oneI b := by
 unfold It.bytes It.tail oneI
 split
 ·simp only [List.length_append, leB_len, size_list]; omega
 ·simp only [List.length_append, leB_len, size_list]; omega
theorem bytesI_len (l : List It) : (bytesI l).length = sizeI l := by
 induction l with
 | nil => rfl
 | cons b l ih =>
  simp only [bytesI, List.flatMap_cons, List.length_append, It.bytes_len, sizeI] at ih ⊢
  rw [ih]
theorem bytesI_take_succ {l : List It} {k : Nat} {x : It} (h : l[k]? = some x) : bytesI (l.take (k + 1)) = bytesI (l.take k) ++ x.bytes := by
 obtain ⟨hk, rfl⟩ := List.getElem?_eq_some_iff.1 h
 rw [List.take_succ_eq_append_getElem hk]
 simp only [bytesI, List.flatMap_append, List.flatMap_cons, List.flatMap_nil, List.append_nil]
def itemBody (size : Nat) (l : List It) : ByteArray := ⟨(bytesI l ++ List.replicate (size - 24 - sizeI l) 0).toArray⟩
def tailI (o : UInt8) (ky : ByteArray) (r : List UInt8) : Option (It × List UInt8) :=
 if o = 0 then (match r with
  | [] => none
  | m :: t => if t.length < m.toNat then none else some (⟨ky, ⟨(t.take m.toNat).toArray⟩, false, 0, 0⟩, t.drop m.toNat))
 else if o = 1 then (if r.length < 8 then none else some (⟨ky, ⟨#[]⟩, true, (leNat (r.take 4) : Nat), leNat ((r.drop 4).take 4)⟩, (r.drop 4).drop 4))
 else none
def stepI : List UInt8 → Option (It × List UInt8)
 | [] => none
 | [_] => none
 | o :: n :: r => if r.length < n.toNat then none else tailI o ⟨(r.take n.toNat).toArray⟩ (r.drop n.toNat)
def parseI : Nat → List UInt8 → Option (List It × List UInt8)
 | 0, bs => some ([], bs)
 | k + 1, bs => match parseI k bs with
  | none => none
  | some (l, r) => match stepI r with
   | none => none
   | some (b, r') => some (l ++ [b], r')
theorem parseI_len : ∀ {k : Nat} {bs : List UInt8} {l : List It} {r : List UInt8}, parseI k bs = some (l, r) → l.length = k
 | 0, bs, l, r, h => by simp [parseI] at h; obtain ⟨rfl, _⟩ := h; rfl
 | k + 1, bs, l, r, h => by
  simp only [parseI] at h
  split at h
  ·cases h
  ·rename_i l0 r0 h0
   split at h
   ·cases h
   ·rename_i b r1 _
    injection h with h
    injection h with h1 _
    rw [← h1, List.length_append, parseI_len h0]
    rfl
theorem leBytes_one (n : UInt8) : Go.leBytes 1 n.toNat = [n] := by
 have := leBytes_leNat [n]
 simpa [leNat] using this
theorem tailI_back {o : UInt8} {ky : ByteArray} {r r' : List UInt8} {b : It} (h : tailI o ky r = some (b, r')) : b.ky = ky ∧ o.toNat = (if b.ov then 1 else 0) ∧ r = b.tail ++ r' := by
 unfold tailI at h
 split at h
 ·rename_i ho
  split at h
  ·cases h
  ·rename_i m t
   split at h
   ·cases h
   ·rename_i hl
    injection h with h
    injection h with h1 h2
    subst h1 h2
    refine ⟨rfl, by rw [ho]; rfl, ?_⟩
    have hz : (⟨(t.take m.toNat).toArray⟩ : ByteArray).size = m.toNat := by
     show (t.take m.toNat).toArray.size = m.toNat
     simp; omega
    simp only [It.tail, Bool.false_eq_true, if_false]
    rw [hz, leBytes_one]
    simp only [List.cons_append, List.nil_append, List.append_assoc, List.take_append_drop]
 ·split at h
  ·rename_i ho
   split at h
   ·cases h
   ·rename_i hl
    injection h with h
    injection h with h1 h2
    subst h1 h2
    refine ⟨rfl, by rw [ho]; rfl, ?_⟩
    have e1 : Go.leBytes 4 (leNat (r.take 4)) = r.take 4 := by
     have := leBytes_leNat (r.take 4)
     rwa [show (r.take 4).length = 4 by simp; omega] at this
    have e2 : Go.leBytes 4 (leNat ((r.drop 4).take 4)) = (r.drop 4).take 4 := by
     have := leBytes_leNat ((r.drop 4).take 4)
     rwa [show ((r.drop 4).take 4).length = 4 by simp; omega] at this
    simp only [It.tail, if_true, Int.toNat_natCast, e1, e2, List.append_assoc, List.take_append_drop]
  ·cases h
theorem stepI_back {bs r : List UInt8} {b : It} (h : stepI bs = some (b, r)) : bs = b.bytes ++ r := by
 match bs, h with
 | [], h => simp [stepI] at h
 | [_], h => simp [stepI] at h
 | o :: n :: t, h =>
  simp only [stepI] at h
  split at h
  ·cases h
  ·rename_i hl
   obtain ⟨h1, h2, h3⟩ := tailI_back h
   have hz : (⟨(t.take n.toNat).toArray⟩ : ByteArray).size = n.toNat := by
    show (t.take n.toNat).toArray.size = n.toNat
    simp; omega
   simp only [It.bytes, h1, ← h2]
   rw [hz, leBytes_one, leBytes_one]
   simp only [List.cons_append, List.nil_append, List.append_assoc, ← h3, List.take_append_drop]
theorem parseI_back : ∀ {k : Nat} {bs : List UInt8} {l : List It} {r : List UInt8}, parseI k bs = some (l, r) → bs = bytesI l ++ r
 | 0, bs, l, r, h => by simp [parseI] at h; obtain ⟨rfl, rfl⟩ := h; simp [bytesI]
 | k + 1, bs, l, r, h => by
  simp only [parseI] at h
  split at h
  ·cases h
  ·rename_i l0 r0 h0
   split at h
   ·cases h
   ·rename_i b r1 hs
    injection h with h
    injection h with h1 h2
    subst h1 h2
    rw [parseI_back h0, stepI_back hs]
    simp [bytesI]
theorem parseI_size {k : Nat} {bs : List UInt8} {l : List It} {r : List UInt8} (h : parseI k bs = some (l, r)) : sizeI l + r.length = bs.length := by
 rw [parseI_back h, List.length_append, bytesI_len]
theorem parseI_none {k : Nat} {bs : List UInt8} (h : parseI k bs = none) : ∀ d, parseI (k + d) bs = none
 | 0 => h
 | d + 1 => by rw [← Nat.add_assoc]; simp only [parseI, parseI_none h d]
theorem parseI_step {k : Nat} {bs r r' : List UInt8} {l : List It} {b : It} (h : parseI k bs = some (l, r)) (hs : stepI r = some (b, r')) : parseI (k + 1) bs = some (l ++ [b], r') := by simp only [parseI, h, hs]
theorem parseI_stop {k : Nat} {bs r : List UInt8} {l : List It} (h : parseI k bs = some (l, r)) (hs : stepI r = none) : parseI (k + 1) bs = none := by simp only [parseI, h, hs]
theorem sizeI_mem {l : List It} {b : It} (h : b ∈ l) : oneI b ≤ sizeI l := by
 induction l with
 | nil => cases h
 | cons c l ih =>
  simp only [sizeI]
  rcases List.mem_cons.1 h with rfl | h
  ·omega
  ·have := ih h; omega
theorem tailI_vl {o : UInt8} {ky : ByteArray} {r r' : List UInt8} {b : It} (h : tailI o ky r = some (b, r')) : b.ov = true → b.vl.size = 0 := by
 unfold tailI at h
 split at h
 ·split at h
  ·cases h
  ·split at h
   ·cases h
   ·injection h with h
    injection h with h1 h2
    subst h1
    intro hb
    cases hb
 ·split at h
  ·split at h
   ·cases h
   ·injection h with h
    injection h with h1 h2
    subst h1
    intro _
    rfl
  ·cases h
theorem stepI_vl {bs r : List UInt8} {b : It} (h : stepI bs = some (b, r)) : b.ov = true → b.vl.size = 0 := by
 match bs, h with
 | [], h => simp [stepI] at h
 | [_], h => simp [stepI] at h
 | o :: n :: t, h =>
  simp only [stepI] at h
  split at h
  ·cases h
  ·exact tailI_vl h
theorem parseI_vl : ∀ {k : Nat} {bs : List UInt8} {l : List It} {r : List UInt8}, parseI k bs = some (l, r) → ∀ b, b ∈ l → b.ov = true → b.vl.size = 0
 | 0, bs, l, r, h, b, hb => by simp [parseI] at h; obtain ⟨rfl, _⟩ := h; cases hb
 | k + 1, bs, l, r, h, b, hb => by
  simp only [parseI] at h
  split at h
  ·cases h
  ·rename_i l0 r0 h0
   split at h
   ·cases h
   ·rename_i x r1 hs
    injection h with h
    injection h with h1 _
    rw [← h1] at hb
    rcases List.mem_append.1 hb with hb | hb
    ·exact parseI_vl h0 b hb
    ·simp only [List.mem_singleton] at hb
     subst hb
     exact stepI_vl hs
theorem parseI_near {k : Nat} {bs : List UInt8} {l : List It} {r : List UInt8} (h : parseI k bs = some (l, r)) (hs : bs.length ≤ 100000) : NearI l := fun b hb => by
 have h1 := parseI_back h
 have h2 : sizeI l + r.length = bs.length := by rw [h1, List.length_append, bytesI_len]
 have h3 := sizeI_mem hb
 have h4 := parseI_vl h b hb
 unfold oneI at h3
 split at h3
 ·rename_i hov
  have := h4 hov
  exact ⟨by omega, by omega⟩
 ·exact ⟨by omega, by omega⟩
theorem parseI_keeps {k : Nat} {bs r : List UInt8} {l : List It} {b : It} (h : parseI k bs = some (l, r)) (hb : b ∈ l) : ∀ d l' r', parseI (k + d) bs = some (l', r') → b ∈ l'
 | 0, l', r', h' => by rw [Nat.add_zero, h] at h'; injection h' with h'; injection h' with h1 _; rw [← h1]; exact hb
 | d + 1, l', r', h' => by
  rw [← Nat.add_assoc] at h'
  simp only [parseI] at h'
  split at h'
  ·cases h'
  ·rename_i l0 r0 h0
   split at h'
   ·cases h'
   ·injection h' with h'
    injection h' with h1 _
    rw [← h1]
    exact List.mem_append_left _ (parseI_keeps h hb d _ _ h0)
theorem tailI_bytes (b : It) (t : List UInt8) (h : okIt b = true) : tailI (if b.ov then 1 else 0) b.ky (b.tail ++ t) = some (b, t) := by
 obtain ⟨ky, vl, ov, ln, hd⟩ := b
 cases ov
 ·simp only [okIt, keyF, Bool.false_eq_true, if_false, Bool.and_eq_true, decide_eq_true_eq] at h
  obtain ⟨_, hv, hln, hhd⟩ := h
  subst hln hhd
  have e1 : Go.leBytes 1 vl.size = [UInt8.ofNat vl.size] := by
   have := leBytes_one (UInt8.ofNat vl.size)
   rwa [show (UInt8.ofNat vl.size).toNat = vl.size by simp; omega] at this
  have hn : (UInt8.ofNat vl.size).toNat = vl.size := by simp; omega
  have hl : vl.data.toList.length = vl.size := size_list _
  simp only [It.tail, tailI, Bool.false_eq_true, if_false, e1, List.cons_append, List.nil_append, hn, if_true]
  rw [if_neg (by simp only [List.length_append, hl]; omega), List.take_left' hl, List.drop_left' hl]
 ·simp only [okIt, keyF, numB, if_true, Bool.and_eq_true, decide_eq_true_eq] at h
  obtain ⟨_, hv, hl1, hl2, hh⟩ := h
  have l4 : ∀ v, (Go.leBytes 4 v).length = 4 := fun v => leB_len 4 v
  have hve : vl = ⟨#[]⟩ := by
   apply bytes_ext
   have : vl.data.toList.length = 0 := by rw [size_list]; exact hv
   rw [List.eq_nil_of_length_eq_zero this]
  subst hve
  have r1 : leNat (Go.leBytes 4 ln.toNat) = ln.toNat := by rw [leNat_leBytes_mod]; omega
  have r2 : leNat (Go.leBytes 4 hd) = hd := by rw [leNat_leBytes_mod]; omega
  simp only [It.tail, tailI, if_true, List.append_assoc]
  rw [if_neg (by decide), if_neg (by simp only [List.length_append, l4]; omega), List.take_left' (l4 _), List.drop_left' (l4 _), List.take_left' (l4 _), List.drop_left' (l4 _), r1, r2]
  congr 2
  exact It.ext_ rfl rfl rfl (by show ((ln.toNat : Nat) : Int) = ln; omega) rfl
theorem okIt_key {b : It} (h : okIt b = true) : b.ky.size ≤ 40 := by
 unfold okIt at h
 split at h <;> simp only [keyF, Bool.and_eq_true, decide_eq_true_eq] at h <;> exact h.1
theorem stepI_bytes (b : It) (t : List UInt8) (h : okIt b = true) : stepI (b.bytes ++ t) = some (b, t) := by
 have hk := okIt_key h
 have e1 : Go.leBytes 1 b.ky.size = [UInt8.ofNat b.ky.size] := by
  have := leBytes_one (UInt8.ofNat b.ky.size)
  rwa [show (UInt8.ofNat b.ky.size).toNat = b.ky.size by simp; omega] at this
 have e0 : Go.leBytes 1 (if b.ov then 1 else 0) = [if b.ov then 1 else 0] := by cases b.ov <;> rfl
 have hn : (UInt8.ofNat b.ky.size).toNat = b.ky.size := by simp; omega
 have hl : b.ky.data.toList.length = b.ky.size := size_list _
 have hkk : (⟨b.ky.data.toList.toArray⟩ : ByteArray) = b.ky := by apply bytes_ext; simp
 simp only [It.bytes, e0, e1, List.cons_append, List.nil_append, List.append_assoc, stepI, hn]
 rw [if_neg (by simp only [List.length_append, hl]; omega), List.take_left' hl, List.drop_left' hl, hkk, tailI_bytes b t h]
theorem parseI_bytes (l : List It) (t : List UInt8) (h : ∀ b, b ∈ l → okIt b = true) : ∀ k, k ≤ l.length → parseI k (bytesI l ++ t) = some (l.take k, bytesI (l.drop k) ++ t)
 | 0, _ => by simp [parseI]
 | k + 1, hk => by
  have ih := parseI_bytes l t h k (by omega)
  have hx : l.drop k = l[k] :: l.drop (k + 1) := List.drop_eq_getElem_cons (by omega)
  have hs : stepI (bytesI (l.drop k) ++ t) = some (l[k], bytesI (l.drop (k + 1)) ++ t) := by
   rw [hx]
   simp only [bytesI, List.flatMap_cons, List.append_assoc]
   exact stepI_bytes l[k] _ (h _ (List.getElem_mem _))
  simp only [parseI, ih, hs]
  rw [List.take_succ_eq_append_getElem (by omega)]
theorem parseI_all (l : List It) (t : List UInt8) (h : ∀ b, b ∈ l → okIt b = true) : parseI l.length (bytesI l ++ t) = some (l, t) := by
 have := parseI_bytes l t h l.length (Nat.le_refl _)
 simpa [bytesI] using this
def mayP8 (size : Int) (n tx : Nat) (l : List It) : Bool := goodSize size && (mayI l && (decide ((sizeI l : Int) ≤ size - 24) && (numB n && decide (tx ≤ 4611686018427387904))))
def readI (kd ct : Int) (pg lk ty : Nat) (bd : ByteArray) : Option (List It) :=
 match parseI ct.toNat bd.data.toList with
 | none => none
 | some (l, _) => if mayP8 ((bd.size + 24 : Nat) : Int) pg ty l && decide (kd = 4 ∧ ct = l.length ∧ lk = 0 ∧ bd = itemBody (bd.size + 24) l) then some l else none
theorem mayP8_parts {z n tx : Nat} {l : List It} (h : mayP8 z n tx l = true) : allOkI l = true ∧ 0 < l.length ∧ goodSize z = true ∧ (sizeI l ≤ z - 24 ∧ 24 ≤ z) ∧ (2 ≤ n ∧ n ≤ 2147483647) ∧ tx ≤ 4611686018427387904 := by
 simp only [mayP8, mayI, numB, Bool.and_eq_true, decide_eq_true_eq] at h
 obtain ⟨h1, ⟨h2, h3⟩, h4, h5, h6⟩ := h
 have := good_pos h1
 exact ⟨h2, h3, h1, by omega, h5, h6⟩
theorem itemBody_size (z : Nat) (l : List It) (h : sizeI l ≤ z - 24) : (itemBody z l).size = z - 24 := by
 show (bytesI l ++ List.replicate (z - 24 - sizeI l) 0).toArray.size = _
 rw [List.size_toArray, List.length_append, List.length_replicate, bytesI_len]
 omega
theorem allOkI_mem {l : List It} (h : allOkI l = true) {b : It} (hb : b ∈ l) : okIt b = true := by
 obtain ⟨i, hi, rfl⟩ := List.mem_iff_getElem.1 hb
 exact allOkI_ok h (List.getElem?_eq_getElem hi)
theorem readI_page {z n tx : Nat} {l : List It} (h : mayP8 z n tx l = true) : readI 4 l.length n 0 tx (itemBody z l) = some l := by
 obtain ⟨hall, h0, hg, hroom, hn, htx⟩ := mayP8_parts h
 have hgp := good_pos hg
 have hsz := itemBody_size z l hroom.1
 have hz : (itemBody z l).size + 24 = z := by omega
 unfold readI
 have hp : parseI (l.length : Int).toNat (itemBody z l).data.toList = some (l, List.replicate (z - 24 - sizeI l) 0) := by
  show parseI l.length _ = _
  have : (itemBody z l).data.toList = bytesI l ++ List.replicate (z - 24 - sizeI l) 0 := by simp [itemBody]
  rw [this]
  exact parseI_all l _ fun b hb => allOkI_mem hall hb
 simp only [hp, hz]
 rw [if_pos (by rw [h]; simp)]
theorem readI_some {kd ct : Int} {pg lk ty : Nat} {bd : ByteArray} {l : List It} (h : readI kd ct pg lk ty bd = some l) : mayP8 ((bd.size + 24 : Nat) : Int) pg ty l = true ∧ kd = 4 ∧ ct = l.length ∧ lk = 0 ∧ bd = itemBody (bd.size + 24) l := by
 unfold readI at h
 split at h
 ·cases h
 ·split at h
  ·rename_i hc
   injection h with h
   subst h
   rw [Bool.and_eq_true, decide_eq_true_eq] at hc
   exact ⟨hc.1, hc.2⟩
  ·cases h
theorem mayP8_bad {size : Int} {n tx : Nat} {l : List It} {b : It} (hb : b ∈ l) (h : okIt b = false) : mayP8 size n tx l = false := by
 rw [Bool.eq_false_iff]
 intro hm
 have : allOkI l = true := by simp only [mayP8, mayI, Bool.and_eq_true] at hm; exact hm.2.1.1
 rw [allOkI_mem this hb] at h
 cases h
theorem readI_bad {kd ct : Int} {pg lk ty : Nat} {bd : ByteArray} {k : Nat} {l : List It} {r : List UInt8} {b : It} (hk : k ≤ ct.toNat) (hp : parseI k bd.data.toList = some (l, r)) (hb : b ∈ l) (h : okIt b = false) : readI kd ct pg lk ty bd = none := by
 unfold readI
 split
 ·rfl
 ·rename_i l' r' hp'
  rw [← Nat.add_sub_cancel' hk] at hp'
  rw [mayP8_bad (parseI_keeps hp hb _ _ _ hp') h]
  rfl
end Go.Proofs.YtmmjckokjmpfpaaGreat

namespace Go.Proofs.YtmmjckokjmpfpaaGreat
open Go.RowKit
open Go.Lib hiding intOf

structure Pr where
 ky : ByteArray
 vl : ByteArray
def Pr.cells (b : Pr) : List Value := [.string b.ky, .string b.vl]
theorem Pr.cells_len (b : Pr) : b.cells.length = 2 := rfl
def Pr.zero : Pr := ⟨⟨#[]⟩, ⟨#[]⟩⟩
def prc (l : List Pr) : List Value := rowsOf Pr.cells l
theorem prc_snoc (l : List Pr) (b : Pr) : prc l ++ b.cells = prc (l ++ [b]) := by simp [prc, rowsOf]
theorem prc_append (l m : List Pr) : prc (l ++ m) = prc l ++ prc m := rowsOf_append l m
inductive Nd where
 | none
 | br (l : List Fk)
 | lf (l : List It)
def Pg.node (p : Pg) : Nd := match readF p.kd p.ct p.pg p.lk p.tx p.bd with
 | some l => .br l
 | none => match readI p.kd p.ct p.pg p.lk p.tx p.bd with
  | some l => .lf l
  | none => .none
def nodeN (size : Int) (s : ByteArray) (n : Nat) : Nd := match readAt size s n with
 | some p => p.node
 | none => .none
def valN (size : Int) (s : ByteArray) (i : It) : Option (ByteArray × List Nat) := if i.ov then readV size s i.hd i.ln else some (i.vl, [])
def visitL (L : List Nat) : List Nat → Option (List Nat)
 | [] => some L
 | n :: t => if n ∈ L then none else visitL (L ++ [n]) t
theorem visitL_some : ∀ {t L M : List Nat}, visitL L t = some M → M = L ++ t
 | [], L, M, h => by simp [visitL] at h; simp [h]
 | n :: t, L, M, h => by
  simp only [visitL] at h
  split at h
  ·cases h
  ·rw [visitL_some h]; simp
theorem visitL_snoc : ∀ (t : List Nat) (L : List Nat) (n : Nat), visitL L (t ++ [n]) = match visitL L t with | some M => if n ∈ M then none else some (M ++ [n]) | none => none
 | [], L, n => by simp only [List.nil_append, visitL]
 | m :: t, L, n => by
  simp only [List.cons_append, visitL]
  split
  ·rfl
  ·exact visitL_snoc t _ n
theorem visitL_none {t : List Nat} {L : List Nat} (h : visitL L t = none) : ∀ u, visitL L (t ++ u) = none := by
 intro u
 induction u generalizing t with
 | nil => simpa using h
 | cons n u ih =>
  rw [show t ++ n :: u = (t ++ [n]) ++ u by simp]
  exact ih (by rw [visitL_snoc, h])
theorem visitL_front {t : List Nat} {L : List Nat} {k : Nat} (h : visitL L (t.take k) = none) : visitL L t = none := by
 have := visitL_none h (t.drop k)
 rwa [List.take_append_drop] at this
theorem visitL_nodup : ∀ {t L M : List Nat}, L.Nodup → visitL L t = some M → M.Nodup
 | [], L, M, hn, h => by simp [visitL] at h; exact h ▸ hn
 | n :: t, L, M, hn, h => by
  simp only [visitL] at h
  split at h
  ·cases h
  ·rename_i hm
   refine visitL_nodup ?_ h
   rw [List.nodup_append]
   exact ⟨hn, by simp, fun a ha b hb => by simp at hb; subst hb; exact fun e => hm (e ▸ ha)⟩
theorem visitL_ok : ∀ {t L : List Nat}, (L ++ t).Nodup → visitL L t = some (L ++ t)
 | [], L, _ => by simp [visitL]
 | n :: t, L, h => by
  have h1 : n ∉ L := fun hm => by
   rw [List.nodup_append] at h
   exact h.2.2 n hm n (by simp) rfl
  simp only [visitL, if_neg h1]
  rw [visitL_ok (by simpa using h)]
  simp
abbrev Tv := List Pr × Option (List Nat)
def itemsT (size : Int) (s : ByteArray) : List It → List Nat → Tv
 | [], L => ([], some L)
 | i :: t, L => match valN size s i with
  | none => ([], none)
  | some (v, ps) => match visitL L ps with
   | none => ([], none)
   | some M => (⟨i.ky, v⟩ :: (itemsT size s t M).1, (itemsT size s t M).2)
def forksT (f : Nat → List Nat → Tv) : List Fk → List Nat → Tv
 | [], L => ([], some L)
 | b :: t, L => match (f b.rt L).2 with
  | none => ((f b.rt L).1, none)
  | some M => ((f b.rt L).1 ++ (forksT f t M).1, (forksT f t M).2)
def trav (size : Int) (s : ByteArray) : Nat → Nat → List Nat → Tv
 | 0, _, _ => ([], none)
 | d + 1, n, L => if n ∈ L then ([], none) else match nodeN size s n with
  | .none => ([], none)
  | .lf l => itemsT size s l (L ++ [n])
  | .br l => forksT (trav size s d) l (L ++ [n])
def treeV (size : Int) (s : ByteArray) (root : Nat) : Tv := if goodSize size then (if root = 0 then ([], some []) else trav size s 16 root []) else ([], none)
def treeE (size : Int) (s : ByteArray) (root : Nat) : Int := if goodSize size then (if (treeV size s root).2.isSome then 0 else 4) else 2
def descT (size : Int) (s : ByteArray) (key : ByteArray) : Nat → Nat → List Nat → Option (List Nat × List It)
 | 0, _, _ => none
 | d + 1, n, P => if n ∈ P then none else match nodeN size s n with
  | .none => none
  | .lf l => some (P ++ [n], l)
  | .br l => descT size s key d ((l[pickF l key]?.map (·.rt)).getD 0) (P ++ [n])
def pathV (size : Int) (s : ByteArray) (root : Nat) (key : ByteArray) : Option (List Nat × List It) := if goodSize size then (if root = 0 then some ([], []) else descT size s key 16 root []) else none
def pathE (size : Int) (s : ByteArray) (root : Nat) (key : ByteArray) : Int := if goodSize size then (if (pathV size s root key).isSome then 0 else 4) else 2
def pathL (size : Int) (s : ByteArray) (root : Nat) (key : ByteArray) : List Nat := ((pathV size s root key).map (·.1)).getD []
def pathI (size : Int) (s : ByteArray) (root : Nat) (key : ByteArray) : List It := ((pathV size s root key).map (·.2)).getD []
def getV (size : Int) (s : ByteArray) (root : Nat) (key : ByteArray) : ByteArray × Int :=
 if pathE size s root key ≠ 0 then (⟨#[]⟩, pathE size s root key)
 else if findB (pathI size s root key) key then (match (pathI size s root key)[findN (pathI size s root key) key]? with
  | some i => match valN size s i with
   | some (v, _) => (v, 0)
   | none => (⟨#[]⟩, 4)
  | none => (⟨#[]⟩, 5))
 else (⟨#[]⟩, 5)
def stepsT (l : List Pr) (e : Int) : List (Pr × Int) := l.map (fun p => (p, 0)) ++ (if e = 0 then [] else [(Pr.zero, e)])

theorem node_some {size : Int} {s : ByteArray} {n : Nat} {l : List Fk} (h : nodeN size s n = .br l) : ∃ p, readAt size s n = some p ∧ readF p.kd p.ct p.pg p.lk p.tx p.bd = some l := by
 unfold nodeN at h
 split at h
 ·rename_i p hp
  refine ⟨p, hp, ?_⟩
  unfold Pg.node at h
  split at h
  ·rename_i l' hl
   injection h with h
   rw [hl, h]
  ·split at h <;> cases h
 ·cases h
theorem leaf_some {size : Int} {s : ByteArray} {n : Nat} {l : List It} (h : nodeN size s n = .lf l) : ∃ p, readAt size s n = some p ∧ readF p.kd p.ct p.pg p.lk p.tx p.bd = none ∧ readI p.kd p.ct p.pg p.lk p.tx p.bd = some l := by
 unfold nodeN at h
 split at h
 ·rename_i p hp
  refine ⟨p, hp, ?_⟩
  unfold Pg.node at h
  split at h
  ·cases h
  ·rename_i h1
   split at h
   ·rename_i l' hl
    injection h with h
    exact ⟨h1, by rw [hl, h]⟩
   ·cases h
 ·cases h
theorem readF_kd {kd ct : Int} {pg lk ty : Nat} {bd : ByteArray} {l : List Fk} (h : readF kd ct pg lk ty bd = some l) : kd = 3 ∧ 2 ≤ pg ∧ 0 < l.length ∧ allOkF l = true := by
 unfold readF at h
 split at h
 ·cases h
 ·split at h
  ·rename_i hc
   injection h with h
   subst h
   simp only [Bool.and_eq_true, decide_eq_true_eq] at hc
   obtain ⟨h1, h2, _, _, h5, _⟩ := mayP7_parts hc.1
   exact ⟨hc.2.1, h5.1, h2, h1⟩
  ·cases h
theorem readI_kd {kd ct : Int} {pg lk ty : Nat} {bd : ByteArray} {l : List It} (h : readI kd ct pg lk ty bd = some l) : kd = 4 ∧ 2 ≤ pg ∧ 0 < l.length ∧ allOkI l = true ∧ sizeI l ≤ bd.size := by
 obtain ⟨h1, h2, _, _, _⟩ := readI_some h
 obtain ⟨a1, a2, _, a4, a5, _⟩ := mayP8_parts h1
 exact ⟨h2, a5.1, a2, a1, by omega⟩
end Go.Proofs.YtmmjckokjmpfpaaGreat

namespace Go.Proofs.YtmmjckokjmpfpaaGreat
open Go.RowKit
open Go.Lib hiding intOf

def pieceL (z n : Nat) (img : List UInt8) : List UInt8 := (img.drop (n * z)).take z
theorem pieceL_write (size p c n : Nat) (b img : List UInt8) (hl : img.length = c * size) (hb : b.length = size) (hn : n < max c (p + 1)) :
  pieceL size n (bWrite size p b img) = if n = p then b else if n < c then pieceL size n img else List.replicate size 0 := by
 obtain ⟨E, hE⟩ : ∃ E, E = img ++ List.replicate (p * size + size - img.length) (0 : UInt8) := ⟨_, rfl⟩
 have hEl : p * size + size ≤ E.length := by rw [hE, List.length_append, List.length_replicate]; omega
 have hT : (E.take (p * size)).length = p * size := by rw [List.length_take]; omega
 unfold bWrite pieceL
 rw [← hE]
 rcases Nat.lt_trichotomy n p with h | h | h
 ·have h1 : n * size + size ≤ p * size := by rw [← Nat.succ_mul]; exact Nat.mul_le_mul_right _ h
  rw [if_neg (by omega), List.append_assoc, List.drop_append_of_le_length (by rw [hT]; omega), List.take_append_of_le_length (by rw [List.length_drop, hT]; omega), List.drop_take, List.take_take, Nat.min_eq_left (by omega)]
  by_cases hc : n < c
  ·have h2 : n * size + size ≤ c * size := by rw [← Nat.succ_mul]; exact Nat.mul_le_mul_right _ hc
   rw [if_pos hc, hE, List.drop_append_of_le_length (by rw [hl]; omega), List.take_append_of_le_length (by rw [List.length_drop, hl]; omega)]
  ·have h2 : c * size ≤ n * size := Nat.mul_le_mul_right _ (by omega)
   rw [if_neg hc, hE, List.drop_append, List.drop_of_length_le (by rw [hl]; exact h2), List.nil_append, List.drop_replicate, List.take_replicate]
   congr 1
   omega
 ·subst h
  rw [if_pos rfl, List.append_assoc, List.drop_append, hT, Nat.sub_self, List.drop_zero, List.drop_of_length_le (by rw [hT]; exact Nat.le_refl _), List.nil_append, List.take_append_of_le_length (by omega), List.take_of_length_le (by omega)]
 ·have hc : n < c := by omega
  have h1 : p * size + size ≤ n * size := by rw [← Nat.succ_mul]; exact Nat.mul_le_mul_right _ h
  rw [if_neg (by omega), if_pos hc, List.drop_append, List.drop_of_length_le (by rw [List.length_append, hT, hb]; exact h1), List.nil_append, List.length_append, hT, hb, List.drop_drop]
  congr 2
  omega
theorem bWrite_pages (size p c : Nat) (b img : List UInt8) (hl : img.length = c * size) (hb : b.length = size) : (bWrite size p b img).length = max c (p + 1) * size := by
 rw [bWrite_len _ _ _ _ hb, hl, show p * size + size = (p + 1) * size by rw [Nat.add_mul]; omega]
 by_cases h : c ≤ p + 1
 ·rw [Nat.max_eq_right h, Nat.max_eq_right (Nat.mul_le_mul_right _ h)]
 ·have h' : p + 1 ≤ c := by omega
  rw [Nat.max_eq_left h', Nat.max_eq_left (Nat.mul_le_mul_right size h')]
def Pg.block (p : Pg) : ByteArray := pageB p.kd.toNat p.ct.toNat p.pg p.lk p.tx p.bd
def writeB (z n : Nat) (b img : ByteArray) : ByteArray := ⟨(bWrite z n b.data.toList img.data.toList).toArray⟩
theorem writeB_list (z n : Nat) (b img : ByteArray) : (writeB z n b img).data.toList = bWrite z n b.data.toList img.data.toList := by simp [writeB]
theorem blkOf_list (z n : Nat) (s : ByteArray) : (blkOf z s n).data.toList = pieceL z n s.data.toList := by
 unfold blkOf pieceL
 rw [ByteArray.data_extract, Array.toList_extract, List.extract_eq_take_drop]
 congr 1
 omega
theorem block_right {z : Nat} {p : Pg} (h : mayPg z p.kd p.ct p.pg p.lk p.tx p.bd = true) : p.block.size = z ∧ blockOk z p.pg p.block = true ∧
  p = ⟨numAt p.block 4 1, numAt p.block 6 2, numAt p.block 8 4, numAt p.block 12 4, numAt p.block 16 8, p.block.extract 24 p.block.size⟩ := by
 have hm := h
 simp only [mayPg, Bool.and_eq_true, decide_eq_true_eq] at hm
 obtain ⟨kd, ct, pg, lk, tx, bd⟩ := p
 simp only at hm h
 obtain ⟨k, rfl⟩ := Int.eq_ofNat_of_zero_le (by omega : 0 ≤ kd)
 obtain ⟨c, rfl⟩ := Int.eq_ofNat_of_zero_le (by omega : 0 ≤ ct)
 have hgz : goodSize z = true := hm.1
 have hgp := good_pos hgz
 have hs : (pageB k c pg lk tx bd).size = z := by rw [pageB_size]; omega
 obtain ⟨a1, a2, a3, a4, a5, a6, a7⟩ := pageB_at k c pg lk tx bd (by omega) (by omega) (by omega) (by omega) (by omega)
 have hb : Pg.block ⟨(k : Int), (c : Int), pg, lk, tx, bd⟩ = pageB k c pg lk tx bd := rfl
 rw [hb]
 have b1 : numAt (pageB k c pg lk tx bd) 4 1 = k := a1
 have b2 : numAt (pageB k c pg lk tx bd) 5 1 = 1 := a2
 have b3 : numAt (pageB k c pg lk tx bd) 6 2 = c := a3
 have b4 : numAt (pageB k c pg lk tx bd) 8 4 = pg := a4
 have b5 : numAt (pageB k c pg lk tx bd) 12 4 = lk := a5
 have b6 : numAt (pageB k c pg lk tx bd) 16 8 = tx := a6
 refine ⟨hs, ?_, by rw [b1, b3, b4, b5, b6, a7]⟩
 unfold blockOk
 rw [b1, b2, b3, b4, b5, b6, a7, hs, pageB_sum]
 simp
 exact h
theorem zeros_wrong (z n : Nat) (h : 24 ≤ z) : blockOk z n ⟨(List.replicate z (0 : UInt8)).toArray⟩ = false := by
 have h1 : numAt ⟨(List.replicate z (0 : UInt8)).toArray⟩ 5 1 = 0 := by
  unfold numAt
  simp only [List.drop_replicate, List.take_replicate]
  rw [show min 1 (z - 5) = 1 by omega]
  rfl
 unfold blockOk
 rw [h1]
 simp
theorem readAt_write {z c : Nat} {img : ByteArray} {p : Pg} (hp : mayPg z p.kd p.ct p.pg p.lk p.tx p.bd = true) (hl : img.size = c * z) (n : Nat) :
  readAt z (writeB z p.pg p.block img) n = if n = p.pg then some p else readAt z img n := by
 have hg : goodSize z = true := by simp only [mayPg, Bool.and_eq_true] at hp; exact hp.1
 have hgp := good_pos hg
 obtain ⟨z', hzz, hz1, _⟩ := good_nat hg
 have hz0 : 0 < z := by omega
 obtain ⟨hbs, hok, hpe⟩ := block_right hp
 have hil : img.data.toList.length = c * z := by rw [size_list, hl]
 have hbl : p.block.data.toList.length = z := by rw [size_list, hbs]
 have hws : (writeB z p.pg p.block img).size = max c (p.pg + 1) * z := by rw [← size_list, writeB_list]; exact bWrite_pages z p.pg c _ _ hil hbl
 have hd1 : (writeB z p.pg p.block img).size / z = max c (p.pg + 1) := by rw [hws, Nat.mul_div_cancel _ hz0]
 have hd2 : img.size / z = c := by rw [hl, Nat.mul_div_cancel _ hz0]
 have hzn : ((z : Nat) : Int).toNat = z := by omega
 have hblk : n < max c (p.pg + 1) → blkOf z (writeB z p.pg p.block img) n = if n = p.pg then p.block else if n < c then blkOf z img n else ⟨(List.replicate z (0 : UInt8)).toArray⟩ := fun hn => by
  apply bytes_ext
  rw [blkOf_list, writeB_list, pieceL_write z p.pg c n _ _ hil hbl hn]
  split
  ·rfl
  ·split
   ·rw [blkOf_list]
   ·simp
 unfold readAt
 rw [hzn, hd1, hd2, hg]
 by_cases hn : n < max c (p.pg + 1)
 ·rw [hblk hn, decide_eq_true hn]
  by_cases h1 : n = p.pg
  ·rw [if_pos h1, if_pos h1, h1, hok]
   simp only [Bool.and_self, if_true]
   rw [← hpe]
  ·rw [if_neg h1, if_neg h1]
   by_cases h2 : n < c
   ·rw [if_pos h2, decide_eq_true h2]
   ·rw [if_neg h2, decide_eq_false h2, zeros_wrong z n (by omega)]
    simp
 ·rw [decide_eq_false hn, decide_eq_false (by omega : ¬ n < c), if_neg (by omega : ¬ n = p.pg)]
  simp
def layL (size : Int) (img : ByteArray) (L : List Pg) : Option ByteArray := L.foldl (fun a p => match a with | some i => if mayPg size p.kd p.ct p.pg p.lk p.tx p.bd then some (writeB size.toNat p.pg p.block i) else none | none => none) (some img)
theorem layL_snoc (size : Int) (img : ByteArray) (L : List Pg) (p : Pg) : layL size img (L ++ [p]) = match layL size img L with | some i => if mayPg size p.kd p.ct p.pg p.lk p.tx p.bd then some (writeB size.toNat p.pg p.block i) else none | none => none := by unfold layL; rw [List.foldl_append]; rfl
theorem layL_none {size : Int} {img : ByteArray} {L : List Pg} (h : layL size img L = none) : ∀ M, layL size img (L ++ M) = none := by
 intro M
 induction M generalizing L with
 | nil => simpa using h
 | cons p t ih =>
  rw [show L ++ p :: t = (L ++ [p]) ++ t by simp]
  exact ih (by rw [layL_snoc, h])
theorem layL_front {size : Int} {img : ByteArray} {L : List Pg} {k : Nat} (h : layL size img (L.take k) = none) : layL size img L = none := by
 have := layL_none h (L.drop k)
 rwa [List.take_append_drop] at this
def layStr (size : Int) (img : ByteArray) (L : List Pg) : ByteArray := (layL size img L).getD ⟨#[]⟩
def layErr (size : Int) (img : ByteArray) (L : List Pg) : Int := if (layL size img L).isSome then 0 else 2
theorem lay_no {size : Int} {img : ByteArray} {L : List Pg} (h : layL size img L = none) : layStr size img L = ⟨#[]⟩ ∧ layErr size img L = 2 := by unfold layStr layErr; rw [h]; exact ⟨rfl, rfl⟩
theorem lay_yes {size : Int} {img im : ByteArray} {L : List Pg} (h : layL size img L = some im) : layStr size img L = im ∧ layErr size img L = 0 := by unfold layStr layErr; rw [h]; exact ⟨rfl, rfl⟩
theorem writeB_size (z n : Nat) (b img : ByteArray) (hb : b.size = z) : (writeB z n b img).size = max img.size (n * z + z) := by
 rw [← size_list, writeB_list, bWrite_len _ _ _ _ (by rw [size_list]; exact hb), size_list]
end Go.Proofs.YtmmjckokjmpfpaaGreat

namespace Go.Proofs.YtmmjckokjmpfpaaGreat
open Go.RowKit
open Go.Lib hiding intOf

theorem ext_list9 (t : ByteArray) (a b : Nat) : (t.extract a b).data.toList = (t.data.toList.drop a).take (b - a) := by
 rw [ByteArray.data_extract, Array.toList_extract, List.extract_eq_take_drop]
end Go.Proofs.YtmmjckokjmpfpaaGreat

namespace Go.Proofs.YtmmjckokjmpfpaaGreat
open Go.RowKit
open Go.Lib hiding intOf

def frontP (r : Nat) (v : ByteArray) (k : Nat) : ByteArray := v.extract 0 (min (k * r) v.size)
theorem frontP_zero (r : Nat) (v : ByteArray) : frontP r v 0 = ⟨#[]⟩ := by
 apply bytes_ext
 unfold frontP
 rw [ext_list9]
 simp
theorem frontP_succ {r k : Nat} {v : ByteArray} (hr : 0 < r) (hk : k < ceilD v.size r) : frontP r v (k + 1) = frontP r v k ++ piece r v k := by
 have h := piece_lt hr hk
 apply bytes_ext
 unfold frontP piece
 rw [ByteArray.data_append, Array.toList_append, ext_list9, ext_list9, ext_list9, List.drop_zero, Nat.sub_zero, Nat.sub_zero, Nat.add_mul, Nat.one_mul, Nat.min_eq_left (by omega : k * r ≤ v.size)]
 rw [← List.take_add]
 congr 1
 omega
theorem frontP_end {r : Nat} {v : ByteArray} (hr : 0 < r) : frontP r v (ceilD v.size r) = v := by
 have h := piece_end hr (Nat.lt_irrefl (ceilD v.size r))
 apply bytes_ext
 unfold frontP
 rw [ext_list9, Nat.min_eq_right h, List.drop_zero, Nat.sub_zero]
 exact List.take_of_length_le (by rw [size_list]; exact Nat.le_refl _)
theorem chunks_at {r i : Nat} {v : ByteArray} (hi : i < ceilD v.size r) : (chunks r v)[i]? = some (piece r v i) := by
 unfold chunks
 rw [List.getElem?_map, List.getElem?_range hi]
 rfl
theorem piece_full {r i : Nat} {v : ByteArray} (hr : 0 < r) (hi : i + 1 < ceilD v.size r) : (piece r v i).size = r := by
 have h := piece_lt hr hi
 rw [piece_size hr (by omega)]
 rw [Nat.add_mul, Nat.one_mul] at h
 omega
end Go.Proofs.YtmmjckokjmpfpaaGreat

namespace Go.Proofs.YtmmjckokjmpfpaaGreat
open Go.RowKit
open Go.Lib hiding intOf

end Go.Proofs.YtmmjckokjmpfpaaGreat

