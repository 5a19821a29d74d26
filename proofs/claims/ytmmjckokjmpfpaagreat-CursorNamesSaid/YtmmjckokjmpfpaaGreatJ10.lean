/-
  Texts that the main proof rests on, put together: ItParse, Tr, Lay, OvMath, OvMath3, FnMath, Ref1. No statement is proved here.
-/
import Derived.Test.YtmmjckokjmpfpaaGreatJ9
import Derived.Test.YtmmjckokjmpfpaaGreatJ8
import Derived.Test.YtmmjckokjmpfpaaGreatJ2
import Derived.Test.YtmmjckokjmpfpaaGreatJ1
set_option linter.unusedVariables false
set_option linter.unusedSimpArgs false
namespace Go.Proofs.YtmmjckokjmpfpaaGreat
open Go.RowKit
open Go.Lib hiding intOf

def It.tail (b : It) : List UInt8 := if b.ov then Go.leBytes 4 b.ln.toNat ++ Go.leBytes 4 b.hd else Go.leBytes 1 b.vl.size ++ b.vl.data.toList
def It.bytes (b : It) : List UInt8 := Go.leBytes 1 (if b.ov then 1 else 0) ++ (Go.leBytes 1 b.ky.size ++ (b.ky.data.toList ++ b.tail))
def bytesI (l : List It) : List UInt8 := l.flatMap It.bytes
theorem It.bytes_len (b : It) : b.bytes.length = oneI b := by
 unfold It.bytes It.tail oneI
 split
 ·simp only [List.length_append, leB_len, size_list]; omega
 ·simp only [List.length_append, leB_len, size_list]; omega
theorem bytesI_len (l : List It) : (bytesI l).length = sizeI l := by
 induction l with
 | nil => rfl
 | cons b l ih =>
  simp only [bytesI, List.flatMap_cons, List.length_append, It.bytes_len, sizeI] at ih ⊢
  rw [ih]
theorem bytesI_take_succ {l : List It} {k : Nat} {x : It} (h : l[k]? = some x) : bytesI (l.take (k + 1)) = bytesI (l.take k) ++ x.bytes := by
 obtain ⟨hk, rfl⟩ := List.getElem?_eq_some_iff.1 h
 rw [List.take_succ_eq_append_getElem hk]
 simp only [bytesI, List.flatMap_append, List.flatMap_cons, List.flatMap_nil, List.append_nil]
def itemBody (size : Nat) (l : List It) : ByteArray := ⟨(bytesI l ++ List.replicate (size - 24 - sizeI l) 0).toArray⟩
def tailI (o : UInt8) (ky : ByteArray) (r : List UInt8) : Option (It × List UInt8) :=
 if o = 0 then (match r with
  | [] => none
  | m :: t => if t.length < m.toNat then none else some (⟨ky, ⟨(t.take m.toNat).toArray⟩, false, 0, 0⟩, t.drop m.toNat))
 else if o = 1 then (if r.length < 8 then none else some (⟨ky, ⟨#[]⟩, true, (leNat (r.take 4) : Nat), leNat ((r.drop 4).take 4)⟩, (r.drop 4).drop 4))
 else none
def stepI : List UInt8 → Option (It × List UInt8)
 | [] => none
 | [_] => none
 | o :: n :: r => if r.length < n.toNat then none else tailI o ⟨(r.take n.toNat).toArray⟩ (r.drop n.toNat)
def parseI : Nat → List UInt8 → Option (List It × List UInt8)
 | 0, bs => some ([], bs)
 | k + 1, bs => match parseI k bs with
  | none => none
  | some (l, r) => match stepI r with
   | none => none
   | some (b, r') => some (l ++ [b], r')
theorem leBytes_one (n : UInt8) : Go.leBytes 1 n.toNat = [n] := by
 have := leBytes_leNat [n]
 simpa [leNat] using this
theorem tailI_back {o : UInt8} {ky : ByteArray} {r r' : List UInt8} {b : It} (h : tailI o ky r = some (b, r')) : b.ky = ky ∧ o.toNat = (if b.ov then 1 else 0) ∧ r = b.tail ++ r' := by
 unfold tailI at h
 split at h
 ·rename_i ho
  split at h
  ·cases h
  ·rename_i m t
   split at h
   ·cases h
   ·rename_i hl
    injection h with h
    injection h with h1 h2
    subst h1 h2
    refine ⟨rfl, by rw [ho]; rfl, ?_⟩
    have hz : (⟨(t.take m.toNat).toArray⟩ : ByteArray).size = m.toNat := by
     show (t.take m.toNat).toArray.size = m.toNat
     simp; omega
    simp only [It.tail, Bool.false_eq_true, if_false]
    rw [hz, leBytes_one]
    simp only [List.cons_append, List.nil_append, List.append_assoc, List.take_append_drop]
 ·split at h
  ·rename_i ho
   split at h
   ·cases h
   ·rename_i hl
    injection h with h
    injection h with h1 h2
    subst h1 h2
    refine ⟨rfl, by rw [ho]; rfl, ?_⟩
    have e1 : Go.leBytes 4 (leNat (r.take 4)) = r.take 4 := by
     have := leBytes_leNat (r.take 4)
     rwa [show (r.take 4).length = 4 by simp; omega] at this
    have e2 : Go.leBytes 4 (leNat ((r.drop 4).take 4)) = (r.drop 4).take 4 := by
     have := leBytes_leNat ((r.drop 4).take 4)
     rwa [show ((r.drop 4).take 4).length = 4 by simp; omega] at this
    simp only [It.tail, if_true, Int.toNat_natCast, e1, e2, List.append_assoc, List.take_append_drop]
  ·cases h
theorem stepI_back {bs r : List UInt8} {b : It} (h : stepI bs = some (b, r)) : bs = b.bytes ++ r := by
 match bs, h with
 | [], h => simp [stepI] at h
 | [_], h => simp [stepI] at h
 | o :: n :: t, h =>
  simp only [stepI] at h
  split at h
  ·cases h
  ·rename_i hl
   obtain ⟨h1, h2, h3⟩ := tailI_back h
   have hz : (⟨(t.take n.toNat).toArray⟩ : ByteArray).size = n.toNat := by
    show (t.take n.toNat).toArray.size = n.toNat
    simp; omega
   simp only [It.bytes, h1, ← h2]
   rw [hz, leBytes_one, leBytes_one]
   simp only [List.cons_append, List.nil_append, List.append_assoc, ← h3, List.take_append_drop]
theorem sizeI_mem {l : List It} {b : It} (h : b ∈ l) : oneI b ≤ sizeI l := by
 induction l with
 | nil => cases h
 | cons c l ih =>
  simp only [sizeI]
  rcases List.mem_cons.1 h with rfl | h
  ·omega
  ·have := ih h; omega
theorem tailI_vl {o : UInt8} {ky : ByteArray} {r r' : List UInt8} {b : It} (h : tailI o ky r = some (b, r')) : b.ov = true → b.vl.size = 0 := by
 unfold tailI at h
 split at h
 ·split at h
  ·cases h
  ·split at h
   ·cases h
   ·injection h with h
    injection h with h1 h2
    subst h1
    intro hb
    cases hb
 ·split at h
  ·split at h
   ·cases h
   ·injection h with h
    injection h with h1 h2
    subst h1
    intro _
    rfl
  ·cases h
theorem stepI_vl {bs r : List UInt8} {b : It} (h : stepI bs = some (b, r)) : b.ov = true → b.vl.size = 0 := by
 match bs, h with
 | [], h => simp [stepI] at h
 | [_], h => simp [stepI] at h
 | o :: n :: t, h =>
  simp only [stepI] at h
  split at h
  ·cases h
  ·exact tailI_vl h
theorem tailI_bytes (b : It) (t : List UInt8) (h : okIt b = true) : tailI (if b.ov then 1 else 0) b.ky (b.tail ++ t) = some (b, t) := by
 obtain ⟨ky, vl, ov, ln, hd⟩ := b
 cases ov
 ·simp only [okIt, keyF, Bool.false_eq_true, if_false, Bool.and_eq_true, decide_eq_true_eq] at h
  obtain ⟨_, hv, hln, hhd⟩ := h
  subst hln hhd
  have e1 : Go.leBytes 1 vl.size = [UInt8.ofNat vl.size] := by
   have := leBytes_one (UInt8.ofNat vl.size)
   rwa [show (UInt8.ofNat vl.size).toNat = vl.size by simp; omega] at this
  have hn : (UInt8.ofNat vl.size).toNat = vl.size := by simp; omega
  have hl : vl.data.toList.length = vl.size := size_list _
  simp only [It.tail, tailI, Bool.false_eq_true, if_false, e1, List.cons_append, List.nil_append, hn, if_true]
  rw [if_neg (by simp only [List.length_append, hl]; omega), List.take_left' hl, List.drop_left' hl]
 ·simp only [okIt, keyF, numB, if_true, Bool.and_eq_true, decide_eq_true_eq] at h
  obtain ⟨_, hv, hl1, hl2, hh⟩ := h
  have l4 : ∀ v, (Go.leBytes 4 v).length = 4 := fun v => leB_len 4 v
  have hve : vl = ⟨#[]⟩ := by
   apply bytes_ext
   have : vl.data.toList.length = 0 := by rw [size_list]; exact hv
   rw [List.eq_nil_of_length_eq_zero this]
  subst hve
  have r1 : leNat (Go.leBytes 4 ln.toNat) = ln.toNat := by rw [leNat_leBytes_mod]; omega
  have r2 : leNat (Go.leBytes 4 hd) = hd := by rw [leNat_leBytes_mod]; omega
  simp only [It.tail, tailI, if_true, List.append_assoc]
  rw [if_neg (by decide), if_neg (by simp only [List.length_append, l4]; omega), List.take_left' (l4 _), List.drop_left' (l4 _), List.take_left' (l4 _), List.drop_left' (l4 _), r1, r2]
  congr 2
  exact It.ext_ rfl rfl rfl (by show ((ln.toNat : Nat) : Int) = ln; omega) rfl
theorem okIt_key {b : It} (h : okIt b = true) : b.ky.size ≤ 40 := by
 unfold okIt at h
 split at h <;> simp only [keyF, Bool.and_eq_true, decide_eq_true_eq] at h <;> exact h.1
theorem stepI_bytes (b : It) (t : List UInt8) (h : okIt b = true) : stepI (b.bytes ++ t) = some (b, t) := by
 have hk := okIt_key h
 have e1 : Go.leBytes 1 b.ky.size = [UInt8.ofNat b.ky.size] := by
  have := leBytes_one (UInt8.ofNat b.ky.size)
  rwa [show (UInt8.ofNat b.ky.size).toNat = b.ky.size by simp; omega] at this
 have e0 : Go.leBytes 1 (if b.ov then 1 else 0) = [if b.ov then 1 else 0] := by cases b.ov <;> rfl
 have hn : (UInt8.ofNat b.ky.size).toNat = b.ky.size := by simp; omega
 have hl : b.ky.data.toList.length = b.ky.size := size_list _
 have hkk : (⟨b.ky.data.toList.toArray⟩ : ByteArray) = b.ky := by apply bytes_ext; simp
 simp only [It.bytes, e0, e1, List.cons_append, List.nil_append, List.append_assoc, stepI, hn]
 rw [if_neg (by simp only [List.length_append, hl]; omega), List.take_left' hl, List.drop_left' hl, hkk, tailI_bytes b t h]
theorem parseI_bytes (l : List It) (t : List UInt8) (h : ∀ b, b ∈ l → okIt b = true) : ∀ k, k ≤ l.length → parseI k (bytesI l ++ t) = some (l.take k, bytesI (l.drop k) ++ t)
 | 0, _ => by simp [parseI]
 | k + 1, hk => by
  have ih := parseI_bytes l t h k (by omega)
  have hx : l.drop k = l[k] :: l.drop (k + 1) := List.drop_eq_getElem_cons (by omega)
  have hs : stepI (bytesI (l.drop k) ++ t) = some (l[k], bytesI (l.drop (k + 1)) ++ t) := by
   rw [hx]
   simp only [bytesI, List.flatMap_cons, List.append_assoc]
   exact stepI_bytes l[k] _ (h _ (List.getElem_mem _))
  simp only [parseI, ih, hs]
  rw [List.take_succ_eq_append_getElem (by omega)]
theorem parseI_all (l : List It) (t : List UInt8) (h : ∀ b, b ∈ l → okIt b = true) : parseI l.length (bytesI l ++ t) = some (l, t) := by
 have := parseI_bytes l t h l.length (Nat.le_refl _)
 simpa [bytesI] using this
def mayP8 (size : Int) (n tx : Nat) (l : List It) : Bool := goodSize size && (mayI l && (decide ((sizeI l : Int) ≤ size - 24) && (numB n && decide (tx ≤ 4611686018427387904))))
def readI (kd ct : Int) (pg lk ty : Nat) (bd : ByteArray) : Option (List It) :=
 match parseI ct.toNat bd.data.toList with
 | none => none
 | some (l, _) => if mayP8 ((bd.size + 24 : Nat) : Int) pg ty l && decide (kd = 4 ∧ ct = l.length ∧ lk = 0 ∧ bd = itemBody (bd.size + 24) l) then some l else none
theorem mayP8_parts {z n tx : Nat} {l : List It} (h : mayP8 z n tx l = true) : allOkI l = true ∧ 0 < l.length ∧ goodSize z = true ∧ (sizeI l ≤ z - 24 ∧ 24 ≤ z) ∧ (2 ≤ n ∧ n ≤ 2147483647) ∧ tx ≤ 4611686018427387904 := by
 simp only [mayP8, mayI, numB, Bool.and_eq_true, decide_eq_true_eq] at h
 obtain ⟨h1, ⟨h2, h3⟩, h4, h5, h6⟩ := h
 have := good_pos h1
 exact ⟨h2, h3, h1, by omega, h5, h6⟩
theorem itemBody_size (z : Nat) (l : List It) (h : sizeI l ≤ z - 24) : (itemBody z l).size = z - 24 := by
 show (bytesI l ++ List.replicate (z - 24 - sizeI l) 0).toArray.size = _
 rw [List.size_toArray, List.length_append, List.length_replicate, bytesI_len]
 omega
theorem allOkI_mem {l : List It} (h : allOkI l = true) {b : It} (hb : b ∈ l) : okIt b = true := by
 obtain ⟨i, hi, rfl⟩ := List.mem_iff_getElem.1 hb
 exact allOkI_ok h (List.getElem?_eq_getElem hi)
theorem readI_page {z n tx : Nat} {l : List It} (h : mayP8 z n tx l = true) : readI 4 l.length n 0 tx (itemBody z l) = some l := by
 obtain ⟨hall, h0, hg, hroom, hn, htx⟩ := mayP8_parts h
 have hgp := good_pos hg
 have hsz := itemBody_size z l hroom.1
 have hz : (itemBody z l).size + 24 = z := by omega
 unfold readI
 have hp : parseI (l.length : Int).toNat (itemBody z l).data.toList = some (l, List.replicate (z - 24 - sizeI l) 0) := by
  show parseI l.length _ = _
  have : (itemBody z l).data.toList = bytesI l ++ List.replicate (z - 24 - sizeI l) 0 := by simp [itemBody]
  rw [this]
  exact parseI_all l _ fun b hb => allOkI_mem hall hb
 simp only [hp, hz]
 rw [if_pos (by rw [h]; simp)]
theorem readI_some {kd ct : Int} {pg lk ty : Nat} {bd : ByteArray} {l : List It} (h : readI kd ct pg lk ty bd = some l) : mayP8 ((bd.size + 24 : Nat) : Int) pg ty l = true ∧ kd = 4 ∧ ct = l.length ∧ lk = 0 ∧ bd = itemBody (bd.size + 24) l := by
 unfold readI at h
 split at h
 ·cases h
 ·split at h
  ·rename_i hc
   injection h with h
   subst h
   rw [Bool.and_eq_true, decide_eq_true_eq] at hc
   exact ⟨hc.1, hc.2⟩
  ·cases h
end Go.Proofs.YtmmjckokjmpfpaaGreat

namespace Go.Proofs.YtmmjckokjmpfpaaGreat
open Go.RowKit
open Go.Lib hiding intOf

structure Pr where
 ky : ByteArray
 vl : ByteArray
def Pr.cells (b : Pr) : List Value := [.string b.ky, .string b.vl]
theorem Pr.cells_len (b : Pr) : b.cells.length = 2 := rfl
def Pr.zero : Pr := ⟨⟨#[]⟩, ⟨#[]⟩⟩
def prc (l : List Pr) : List Value := rowsOf Pr.cells l
theorem prc_snoc (l : List Pr) (b : Pr) : prc l ++ b.cells = prc (l ++ [b]) := by simp [prc, rowsOf]
theorem prc_append (l m : List Pr) : prc (l ++ m) = prc l ++ prc m := rowsOf_append l m
inductive Nd where
 | none
 | br (l : List Fk)
 | lf (l : List It)
def Pg.node (p : Pg) : Nd := match readF p.kd p.ct p.pg p.lk p.tx p.bd with
 | some l => .br l
 | none => match readI p.kd p.ct p.pg p.lk p.tx p.bd with
  | some l => .lf l
  | none => .none
def nodeN (size : Int) (s : ByteArray) (n : Nat) : Nd := match readAt size s n with
 | some p => p.node
 | none => .none
def valN (size : Int) (s : ByteArray) (i : It) : Option (ByteArray × List Nat) := if i.ov then readV size s i.hd i.ln else some (i.vl, [])
def visitL (L : List Nat) : List Nat → Option (List Nat)
 | [] => some L
 | n :: t => if n ∈ L then none else visitL (L ++ [n]) t
theorem visitL_some : ∀ {t L M : List Nat}, visitL L t = some M → M = L ++ t
 | [], L, M, h => by simp [visitL] at h; simp [h]
 | n :: t, L, M, h => by
  simp only [visitL] at h
  split at h
  ·cases h
  ·rw [visitL_some h]; simp
theorem visitL_snoc : ∀ (t : List Nat) (L : List Nat) (n : Nat), visitL L (t ++ [n]) = match visitL L t with | some M => if n ∈ M then none else some (M ++ [n]) | none => none
 | [], L, n => by simp only [List.nil_append, visitL]
 | m :: t, L, n => by
  simp only [List.cons_append, visitL]
  split
  ·rfl
  ·exact visitL_snoc t _ n
theorem visitL_none {t : List Nat} {L : List Nat} (h : visitL L t = none) : ∀ u, visitL L (t ++ u) = none := by
 intro u
 induction u generalizing t with
 | nil => simpa using h
 | cons n u ih =>
  rw [show t ++ n :: u = (t ++ [n]) ++ u by simp]
  exact ih (by rw [visitL_snoc, h])
theorem visitL_front {t : List Nat} {L : List Nat} {k : Nat} (h : visitL L (t.take k) = none) : visitL L t = none := by
 have := visitL_none h (t.drop k)
 rwa [List.take_append_drop] at this
theorem visitL_nodup : ∀ {t L M : List Nat}, L.Nodup → visitL L t = some M → M.Nodup
 | [], L, M, hn, h => by simp [visitL] at h; exact h ▸ hn
 | n :: t, L, M, hn, h => by
  simp only [visitL] at h
  split at h
  ·cases h
  ·rename_i hm
   refine visitL_nodup ?_ h
   rw [List.nodup_append]
   exact ⟨hn, by simp, fun a ha b hb => by simp at hb; subst hb; exact fun e => hm (e ▸ ha)⟩
theorem visitL_ok : ∀ {t L : List Nat}, (L ++ t).Nodup → visitL L t = some (L ++ t)
 | [], L, _ => by simp [visitL]
 | n :: t, L, h => by
  have h1 : n ∉ L := fun hm => by
   rw [List.nodup_append] at h
   exact h.2.2 n hm n (by simp) rfl
  simp only [visitL, if_neg h1]
  rw [visitL_ok (by simpa using h)]
  simp
abbrev Tv := List Pr × Option (List Nat)
def itemsT (size : Int) (s : ByteArray) : List It → List Nat → Tv
 | [], L => ([], some L)
 | i :: t, L => match valN size s i with
  | none => ([], none)
  | some (v, ps) => match visitL L ps with
   | none => ([], none)
   | some M => (⟨i.ky, v⟩ :: (itemsT size s t M).1, (itemsT size s t M).2)
def forksT (f : Nat → List Nat → Tv) : List Fk → List Nat → Tv
 | [], L => ([], some L)
 | b :: t, L => match (f b.rt L).2 with
  | none => ((f b.rt L).1, none)
  | some M => ((f b.rt L).1 ++ (forksT f t M).1, (forksT f t M).2)
def trav (size : Int) (s : ByteArray) : Nat → Nat → List Nat → Tv
 | 0, _, _ => ([], none)
 | d + 1, n, L => if n ∈ L then ([], none) else match nodeN size s n with
  | .none => ([], none)
  | .lf l => itemsT size s l (L ++ [n])
  | .br l => forksT (trav size s d) l (L ++ [n])
def treeV (size : Int) (s : ByteArray) (root : Nat) : Tv := if goodSize size then (if root = 0 then ([], some []) else trav size s 16 root []) else ([], none)
def treeE (size : Int) (s : ByteArray) (root : Nat) : Int := if goodSize size then (if (treeV size s root).2.isSome then 0 else 4) else 2
def descT (size : Int) (s : ByteArray) (key : ByteArray) : Nat → Nat → List Nat → Option (List Nat × List It)
 | 0, _, _ => none
 | d + 1, n, P => if n ∈ P then none else match nodeN size s n with
  | .none => none
  | .lf l => some (P ++ [n], l)
  | .br l => descT size s key d ((l[pickF l key]?.map (·.rt)).getD 0) (P ++ [n])
def pathV (size : Int) (s : ByteArray) (root : Nat) (key : ByteArray) : Option (List Nat × List It) := if goodSize size then (if root = 0 then some ([], []) else descT size s key 16 root []) else none
def pathE (size : Int) (s : ByteArray) (root : Nat) (key : ByteArray) : Int := if goodSize size then (if (pathV size s root key).isSome then 0 else 4) else 2
def pathL (size : Int) (s : ByteArray) (root : Nat) (key : ByteArray) : List Nat := ((pathV size s root key).map (·.1)).getD []
def pathI (size : Int) (s : ByteArray) (root : Nat) (key : ByteArray) : List It := ((pathV size s root key).map (·.2)).getD []
def getV (size : Int) (s : ByteArray) (root : Nat) (key : ByteArray) : ByteArray × Int :=
 if pathE size s root key ≠ 0 then (⟨#[]⟩, pathE size s root key)
 else if findB (pathI size s root key) key then (match (pathI size s root key)[findN (pathI size s root key) key]? with
  | some i => match valN size s i with
   | some (v, _) => (v, 0)
   | none => (⟨#[]⟩, 4)
  | none => (⟨#[]⟩, 5))
 else (⟨#[]⟩, 5)
def stepsT (l : List Pr) (e : Int) : List (Pr × Int) := l.map (fun p => (p, 0)) ++ (if e = 0 then [] else [(Pr.zero, e)])

theorem node_some {size : Int} {s : ByteArray} {n : Nat} {l : List Fk} (h : nodeN size s n = .br l) : ∃ p, readAt size s n = some p ∧ readF p.kd p.ct p.pg p.lk p.tx p.bd = some l := by
 unfold nodeN at h
 split at h
 ·rename_i p hp
  refine ⟨p, hp, ?_⟩
  unfold Pg.node at h
  split at h
  ·rename_i l' hl
   injection h with h
   rw [hl, h]
  ·split at h <;> cases h
 ·cases h
theorem leaf_some {size : Int} {s : ByteArray} {n : Nat} {l : List It} (h : nodeN size s n = .lf l) : ∃ p, readAt size s n = some p ∧ readF p.kd p.ct p.pg p.lk p.tx p.bd = none ∧ readI p.kd p.ct p.pg p.lk p.tx p.bd = some l := by
 unfold nodeN at h
 split at h
 ·rename_i p hp
  refine ⟨p, hp, ?_⟩
  unfold Pg.node at h
  split at h
  ·cases h
  ·rename_i h1
   split at h
   ·rename_i l' hl
    injection h with h
    exact ⟨h1, by rw [hl, h]⟩
   ·cases h
 ·cases h
theorem readF_kd {kd ct : Int} {pg lk ty : Nat} {bd : ByteArray} {l : List Fk} (h : readF kd ct pg lk ty bd = some l) : kd = 3 ∧ 2 ≤ pg ∧ 0 < l.length ∧ allOkF l = true := by
 unfold readF at h
 split at h
 ·cases h
 ·split at h
  ·rename_i hc
   injection h with h
   subst h
   simp only [Bool.and_eq_true, decide_eq_true_eq] at hc
   obtain ⟨h1, h2, _, _, h5, _⟩ := mayP7_parts hc.1
   exact ⟨hc.2.1, h5.1, h2, h1⟩
  ·cases h
theorem readI_kd {kd ct : Int} {pg lk ty : Nat} {bd : ByteArray} {l : List It} (h : readI kd ct pg lk ty bd = some l) : kd = 4 ∧ 2 ≤ pg ∧ 0 < l.length ∧ allOkI l = true ∧ sizeI l ≤ bd.size := by
 obtain ⟨h1, h2, _, _, _⟩ := readI_some h
 obtain ⟨a1, a2, _, a4, a5, _⟩ := mayP8_parts h1
 exact ⟨h2, a5.1, a2, a1, by omega⟩
theorem node_two {size : Int} {s : ByteArray} {n : Nat} (h : n < 2) : nodeN size s n = .none := by
 rcases hn : nodeN size s n with _ | l | l
 ·rfl
 ·obtain ⟨p, hp, hf⟩ := node_some hn
  have h1 := (readAt_some hp).2.2.1
  have h2 := (readF_kd hf).2.1
  omega
 ·obtain ⟨p, hp, _, hf⟩ := leaf_some hn
  have h1 := (readAt_some hp).2.2.1
  have h2 := (readI_kd hf).2.1
  omega
end Go.Proofs.YtmmjckokjmpfpaaGreat

namespace Go.Proofs.YtmmjckokjmpfpaaGreat
open Go.RowKit
open Go.Lib hiding intOf

def pieceL (z n : Nat) (img : List UInt8) : List UInt8 := (img.drop (n * z)).take z
theorem pieceL_write (size p c n : Nat) (b img : List UInt8) (hl : img.length = c * size) (hb : b.length = size) (hn : n < max c (p + 1)) :
  pieceL size n (bWrite size p b img) = if n = p then b else if n < c then pieceL size n img else List.replicate size 0 := by
 obtain ⟨E, hE⟩ : ∃ E, E = img ++ List.replicate (p * size + size - img.length) (0 : UInt8) := ⟨_, rfl⟩
 have hEl : p * size + size ≤ E.length := by rw [hE, List.length_append, List.length_replicate]; omega
 have hT : (E.take (p * size)).length = p * size := by rw [List.length_take]; omega
 unfold bWrite pieceL
 rw [← hE]
 rcases Nat.lt_trichotomy n p with h | h | h
 ·have h1 : n * size + size ≤ p * size := by rw [← Nat.succ_mul]; exact Nat.mul_le_mul_right _ h
  rw [if_neg (by omega), List.append_assoc, List.drop_append_of_le_length (by rw [hT]; omega), List.take_append_of_le_length (by rw [List.length_drop, hT]; omega), List.drop_take, List.take_take, Nat.min_eq_left (by omega)]
  by_cases hc : n < c
  ·have h2 : n * size + size ≤ c * size := by rw [← Nat.succ_mul]; exact Nat.mul_le_mul_right _ hc
   rw [if_pos hc, hE, List.drop_append_of_le_length (by rw [hl]; omega), List.take_append_of_le_length (by rw [List.length_drop, hl]; omega)]
  ·have h2 : c * size ≤ n * size := Nat.mul_le_mul_right _ (by omega)
   rw [if_neg hc, hE, List.drop_append, List.drop_of_length_le (by rw [hl]; exact h2), List.nil_append, List.drop_replicate, List.take_replicate]
   congr 1
   omega
 ·subst h
  rw [if_pos rfl, List.append_assoc, List.drop_append, hT, Nat.sub_self, List.drop_zero, List.drop_of_length_le (by rw [hT]; exact Nat.le_refl _), List.nil_append, List.take_append_of_le_length (by omega), List.take_of_length_le (by omega)]
 ·have hc : n < c := by omega
  have h1 : p * size + size ≤ n * size := by rw [← Nat.succ_mul]; exact Nat.mul_le_mul_right _ h
  rw [if_neg (by omega), if_pos hc, List.drop_append, List.drop_of_length_le (by rw [List.length_append, hT, hb]; exact h1), List.nil_append, List.length_append, hT, hb, List.drop_drop]
  congr 2
  omega
theorem bWrite_pages (size p c : Nat) (b img : List UInt8) (hl : img.length = c * size) (hb : b.length = size) : (bWrite size p b img).length = max c (p + 1) * size := by
 rw [bWrite_len _ _ _ _ hb, hl, show p * size + size = (p + 1) * size by rw [Nat.add_mul]; omega]
 by_cases h : c ≤ p + 1
 ·rw [Nat.max_eq_right h, Nat.max_eq_right (Nat.mul_le_mul_right _ h)]
 ·have h' : p + 1 ≤ c := by omega
  rw [Nat.max_eq_left h', Nat.max_eq_left (Nat.mul_le_mul_right size h')]
def Pg.block (p : Pg) : ByteArray := pageB p.kd.toNat p.ct.toNat p.pg p.lk p.tx p.bd
def writeB (z n : Nat) (b img : ByteArray) : ByteArray := ⟨(bWrite z n b.data.toList img.data.toList).toArray⟩
theorem writeB_list (z n : Nat) (b img : ByteArray) : (writeB z n b img).data.toList = bWrite z n b.data.toList img.data.toList := by simp [writeB]
theorem blkOf_list (z n : Nat) (s : ByteArray) : (blkOf z s n).data.toList = pieceL z n s.data.toList := by
 unfold blkOf pieceL
 rw [ByteArray.data_extract, Array.toList_extract, List.extract_eq_take_drop]
 congr 1
 omega
theorem block_right {z : Nat} {p : Pg} (h : mayPg z p.kd p.ct p.pg p.lk p.tx p.bd = true) : p.block.size = z ∧ blockOk z p.pg p.block = true ∧
  p = ⟨numAt p.block 4 1, numAt p.block 6 2, numAt p.block 8 4, numAt p.block 12 4, numAt p.block 16 8, p.block.extract 24 p.block.size⟩ := by
 have hm := h
 simp only [mayPg, Bool.and_eq_true, decide_eq_true_eq] at hm
 obtain ⟨kd, ct, pg, lk, tx, bd⟩ := p
 simp only at hm h
 obtain ⟨k, rfl⟩ := Int.eq_ofNat_of_zero_le (by omega : 0 ≤ kd)
 obtain ⟨c, rfl⟩ := Int.eq_ofNat_of_zero_le (by omega : 0 ≤ ct)
 have hgz : goodSize z = true := hm.1
 have hgp := good_pos hgz
 have hs : (pageB k c pg lk tx bd).size = z := by rw [pageB_size]; omega
 obtain ⟨a1, a2, a3, a4, a5, a6, a7⟩ := pageB_at k c pg lk tx bd (by omega) (by omega) (by omega) (by omega) (by omega)
 have hb : Pg.block ⟨(k : Int), (c : Int), pg, lk, tx, bd⟩ = pageB k c pg lk tx bd := rfl
 rw [hb]
 have b1 : numAt (pageB k c pg lk tx bd) 4 1 = k := a1
 have b2 : numAt (pageB k c pg lk tx bd) 5 1 = 1 := a2
 have b3 : numAt (pageB k c pg lk tx bd) 6 2 = c := a3
 have b4 : numAt (pageB k c pg lk tx bd) 8 4 = pg := a4
 have b5 : numAt (pageB k c pg lk tx bd) 12 4 = lk := a5
 have b6 : numAt (pageB k c pg lk tx bd) 16 8 = tx := a6
 refine ⟨hs, ?_, by rw [b1, b3, b4, b5, b6, a7]⟩
 unfold blockOk
 rw [b1, b2, b3, b4, b5, b6, a7, hs, pageB_sum]
 simp
 exact h
theorem zeros_wrong (z n : Nat) (h : 24 ≤ z) : blockOk z n ⟨(List.replicate z (0 : UInt8)).toArray⟩ = false := by
 have h1 : numAt ⟨(List.replicate z (0 : UInt8)).toArray⟩ 5 1 = 0 := by
  unfold numAt
  simp only [List.drop_replicate, List.take_replicate]
  rw [show min 1 (z - 5) = 1 by omega]
  rfl
 unfold blockOk
 rw [h1]
 simp
theorem readAt_write {z c : Nat} {img : ByteArray} {p : Pg} (hp : mayPg z p.kd p.ct p.pg p.lk p.tx p.bd = true) (hl : img.size = c * z) (n : Nat) :
  readAt z (writeB z p.pg p.block img) n = if n = p.pg then some p else readAt z img n := by
 have hg : goodSize z = true := by simp only [mayPg, Bool.and_eq_true] at hp; exact hp.1
 have hgp := good_pos hg
 obtain ⟨z', hzz, hz1, _⟩ := good_nat hg
 have hz0 : 0 < z := by omega
 obtain ⟨hbs, hok, hpe⟩ := block_right hp
 have hil : img.data.toList.length = c * z := by rw [size_list, hl]
 have hbl : p.block.data.toList.length = z := by rw [size_list, hbs]
 have hws : (writeB z p.pg p.block img).size = max c (p.pg + 1) * z := by rw [← size_list, writeB_list]; exact bWrite_pages z p.pg c _ _ hil hbl
 have hd1 : (writeB z p.pg p.block img).size / z = max c (p.pg + 1) := by rw [hws, Nat.mul_div_cancel _ hz0]
 have hd2 : img.size / z = c := by rw [hl, Nat.mul_div_cancel _ hz0]
 have hzn : ((z : Nat) : Int).toNat = z := by omega
 have hblk : n < max c (p.pg + 1) → blkOf z (writeB z p.pg p.block img) n = if n = p.pg then p.block else if n < c then blkOf z img n else ⟨(List.replicate z (0 : UInt8)).toArray⟩ := fun hn => by
  apply bytes_ext
  rw [blkOf_list, writeB_list, pieceL_write z p.pg c n _ _ hil hbl hn]
  split
  ·rfl
  ·split
   ·rw [blkOf_list]
   ·simp
 unfold readAt
 rw [hzn, hd1, hd2, hg]
 by_cases hn : n < max c (p.pg + 1)
 ·rw [hblk hn, decide_eq_true hn]
  by_cases h1 : n = p.pg
  ·rw [if_pos h1, if_pos h1, h1, hok]
   simp only [Bool.and_self, if_true]
   rw [← hpe]
  ·rw [if_neg h1, if_neg h1]
   by_cases h2 : n < c
   ·rw [if_pos h2, decide_eq_true h2]
   ·rw [if_neg h2, decide_eq_false h2, zeros_wrong z n (by omega)]
    simp
 ·rw [decide_eq_false hn, decide_eq_false (by omega : ¬ n < c), if_neg (by omega : ¬ n = p.pg)]
  simp
def layL (size : Int) (img : ByteArray) (L : List Pg) : Option ByteArray := L.foldl (fun a p => match a with | some i => if mayPg size p.kd p.ct p.pg p.lk p.tx p.bd then some (writeB size.toNat p.pg p.block i) else none | none => none) (some img)
theorem layL_snoc (size : Int) (img : ByteArray) (L : List Pg) (p : Pg) : layL size img (L ++ [p]) = match layL size img L with | some i => if mayPg size p.kd p.ct p.pg p.lk p.tx p.bd then some (writeB size.toNat p.pg p.block i) else none | none => none := by unfold layL; rw [List.foldl_append]; rfl
theorem layL_none {size : Int} {img : ByteArray} {L : List Pg} (h : layL size img L = none) : ∀ M, layL size img (L ++ M) = none := by
 intro M
 induction M generalizing L with
 | nil => simpa using h
 | cons p t ih =>
  rw [show L ++ p :: t = (L ++ [p]) ++ t by simp]
  exact ih (by rw [layL_snoc, h])
theorem layL_front {size : Int} {img : ByteArray} {L : List Pg} {k : Nat} (h : layL size img (L.take k) = none) : layL size img L = none := by
 have := layL_none h (L.drop k)
 rwa [List.take_append_drop] at this
def layStr (size : Int) (img : ByteArray) (L : List Pg) : ByteArray := (layL size img L).getD ⟨#[]⟩
def layErr (size : Int) (img : ByteArray) (L : List Pg) : Int := if (layL size img L).isSome then 0 else 2
theorem lay_no {size : Int} {img : ByteArray} {L : List Pg} (h : layL size img L = none) : layStr size img L = ⟨#[]⟩ ∧ layErr size img L = 2 := by unfold layStr layErr; rw [h]; exact ⟨rfl, rfl⟩
theorem lay_yes {size : Int} {img im : ByteArray} {L : List Pg} (h : layL size img L = some im) : layStr size img L = im ∧ layErr size img L = 0 := by unfold layStr layErr; rw [h]; exact ⟨rfl, rfl⟩
theorem writeB_size (z n : Nat) (b img : ByteArray) (hb : b.size = z) : (writeB z n b img).size = max img.size (n * z + z) := by
 rw [← size_list, writeB_list, bWrite_len _ _ _ _ (by rw [size_list]; exact hb), size_list]
end Go.Proofs.YtmmjckokjmpfpaaGreat

namespace Go.Proofs.YtmmjckokjmpfpaaGreat
open Go.RowKit
open Go.Lib hiding intOf

theorem ext_list9 (t : ByteArray) (a b : Nat) : (t.extract a b).data.toList = (t.data.toList.drop a).take (b - a) := by
 rw [ByteArray.data_extract, Array.toList_extract, List.extract_eq_take_drop]
end Go.Proofs.YtmmjckokjmpfpaaGreat

namespace Go.Proofs.YtmmjckokjmpfpaaGreat
open Go.RowKit
open Go.Lib hiding intOf

def frontP (r : Nat) (v : ByteArray) (k : Nat) : ByteArray := v.extract 0 (min (k * r) v.size)
theorem frontP_zero (r : Nat) (v : ByteArray) : frontP r v 0 = ⟨#[]⟩ := by
 apply bytes_ext
 unfold frontP
 rw [ext_list9]
 simp
theorem frontP_succ {r k : Nat} {v : ByteArray} (hr : 0 < r) (hk : k < ceilD v.size r) : frontP r v (k + 1) = frontP r v k ++ piece r v k := by
 have h := piece_lt hr hk
 apply bytes_ext
 unfold frontP piece
 rw [ByteArray.data_append, Array.toList_append, ext_list9, ext_list9, ext_list9, List.drop_zero, Nat.sub_zero, Nat.sub_zero, Nat.add_mul, Nat.one_mul, Nat.min_eq_left (by omega : k * r ≤ v.size)]
 rw [← List.take_add]
 congr 1
 omega
theorem frontP_end {r : Nat} {v : ByteArray} (hr : 0 < r) : frontP r v (ceilD v.size r) = v := by
 have h := piece_end hr (Nat.lt_irrefl (ceilD v.size r))
 apply bytes_ext
 unfold frontP
 rw [ext_list9, Nat.min_eq_right h, List.drop_zero, Nat.sub_zero]
 exact List.take_of_length_le (by rw [size_list]; exact Nat.le_refl _)
theorem chunks_at {r i : Nat} {v : ByteArray} (hi : i < ceilD v.size r) : (chunks r v)[i]? = some (piece r v i) := by
 unfold chunks
 rw [List.getElem?_map, List.getElem?_range hi]
 rfl
theorem piece_full {r i : Nat} {v : ByteArray} (hr : 0 < r) (hi : i + 1 < ceilD v.size r) : (piece r v i).size = r := by
 have h := piece_lt hr hi
 rw [piece_size hr (by omega)]
 rw [Nat.add_mul, Nat.one_mul] at h
 omega
end Go.Proofs.YtmmjckokjmpfpaaGreat

namespace Go.Proofs.YtmmjckokjmpfpaaGreat
open Go.RowKit
open Go.Lib hiding intOf

end Go.Proofs.YtmmjckokjmpfpaaGreat

namespace Go.Proofs.YtmmjckokjmpfpaaGreat
open Go.RowKit Go.Lib
set_option maxRecDepth 100000

def IsRf (w : World) (g : Nat) (s : ByteArray) : Prop := Blk w g 158 #[.string s]
theorem rbytes_more {w : World} {g : Nat} {s : ByteArray} (h : IsRf w g s) (n : Int) (hn : (s.size : Int) < n) :
  Calls Tryz.prog 65 #[.pointer (some ⟨g, 0, none⟩), .int .i64 n] w fun e w' => e = .returned (.tuple #[.string ⟨#[]⟩, .int .i64 7]) ∧ w = w' := by
 have c0 := Blk.cell h 0
 simp at c0
 have h0 : ¬ n < 0 := by omega
 go_enter Tryz.func65, Tryz.ntmps65
 go_wp2
 go_ret2
 exact ⟨rfl, rfl⟩
theorem rbytes_ok {w : World} {g : Nat} {s : ByteArray} (h : IsRf w g s) (n : Nat) (hn : n ≤ s.size) :
  Calls Tryz.prog 65 #[.pointer (some ⟨g, 0, none⟩), .int .i64 n] w fun e w' => e = .returned (.tuple #[.string (s.extract 0 n), .int .i64 0]) ∧ w' = w.setCell ⟨g, 0, none⟩ (.string (s.extract n s.size)) := by
 have c0 := Blk.cell h 0
 simp at c0
 have f0 := Blk.frozen h 0
 go_enter Tryz.func65, Tryz.ntmps65
 go_wp2
 go_ret2
 exact ⟨rfl, rfl⟩
theorem rput_yes (A : Option Addr) (n c num k : Nat) (l : List UInt8) (w : World) (hr : Reads w w.heap.size 1 A n (bcells l)) (hn : n + 8 ≤ 140737488355328) (h1 : 1 ≤ k) (h2 : k ≤ 8) :
  Calls Tryz.prog 51 #[.slice A n c, .int .u64 num, .int .i64 k] w fun e w' => ∃ v, e = .returned v ∧ w'.ownsRow w.heap.size 5 1 v (n + k) (bcells (l ++ Go.leBytes k num)) ∧ Below w.heap.size w w' := by
 obtain ⟨i0, hi0, hz0, hz1, hz2⟩ := info_parts infoU8
 have h1' : (1 : Int) ≤ k := by omega
 have h2' : (k : Int) ≤ 8 := by omega
 have hown1 : (w.alloc (.cells #[] 5)).ownsRow w.heap.size 5 1 (.slice (some ⟨w.heap.size, 0, none⟩) 0 0) 0 [] := World.ownsRow_made w #[] 0 (Nat.le_refl _) (by simp [maxLen]) rfl
 have hb1 : Below w.heap.size w (w.alloc (.cells #[] 5)) := (Below.refl _ _).alloc (Nat.le_refl _) _
 have HO := Lib.hid hown1
 have HB := Lib.hid hb1
 clear hown1 hb1
 go_enter Tryz.func51, Tryz.ntmps51
 go_wp2_with (at_builtin; refine wpList_append_any _ rfl (.tmp 9) (.tmp 10) _ rfl w.heap.size 5 i0 _ 1 1 Tryz.underlying102 hi0 hz0 hz1 hz2 rfl (by omega) _ 0 [] rfl HO.out w.heap.size A n c _ rfl (hr.below HB.out) (bcells_one _) (by unfold maxLen; omega) (by omega) HB.out.size ?_; intro v2 w2 hown2 hg2 hat2)
 have hb2 : Below w.heap.size w w2 := HB.out.grown hg2 HB.out.size (by rintro g ⟨⟩; exact Nat.le_refl _)
 clear hg2 hat2 HO HB
 go_loopw [7, 8] (fun v i wr => ∃ j : Nat, j ≤ k ∧ i = .int .i64 j ∧ wr.ownsRow w.heap.size 5 1 v (n + j) (bcells (l ++ Go.leBytes j num)) ∧ Below w.heap.size w wr) (fun _ i _ => k - (RowKit.intOf i).toNat)
 case atStart => exact ⟨0, Nat.zero_le _, rfl, by simpa [Go.leBytes] using hown2, hb2⟩
 case round =>
  obtain ⟨j, hj, rfl, hown, hbr⟩ := hrel
  by_cases hlt : j < k
  ·go_wp2_with (first
    | (at_builtin; refine wpList_append_any _ rfl (.tmp 24) (.tmp 31) _ rfl w.heap.size 5 i0 _ 1 1 Tryz.underlying102 hi0 hz0 hz1 hz2 rfl (by omega) _ (n + j) _ rfl (hown.alloc _) (wr.heap.size + 1) (some ⟨wr.heap.size, 0, none⟩) 1 1 [Value.int .u8 ((num : Int) / 2 ^ (8 * j) % 256)] rfl (reads_new _ _ _ _) (oneCell_one rfl) (by unfold maxLen; omega) (by omega) (by have := hbr.size; simp; omega) ?_; intro v3 w3 hown3 hg3 hat3))
   go_roundw
   case rel =>
    refine ⟨j + 1, by omega, by go_num, ?_, ?_⟩
    ·rw [leBytes_snoc, ← List.append_assoc, bcells_append, ← byte_cell]
     exact hown3
    ·exact (hbr.alloc hbr.size _).grown hg3 (by have := hbr.size; simp; omega) (fun g hg => (hown.lt g hg).1)
   case measure => simp [RowKit.intOf]; omega
  ·go_wp2
   go_ret
   have : j = k := by omega
   subst this
   exact ⟨_, rfl, hown, hbr⟩
theorem rput_reads (A : Option Addr) (n c num k : Nat) (l : List UInt8) (w : World) (hr : Reads w w.heap.size 1 A n (bcells l)) (hn : n + 8 ≤ 140737488355328) (h1 : 1 ≤ k) (h2 : k ≤ 8) :
  Calls Tryz.prog 51 #[.slice A n c, .int .u64 num, .int .i64 k] w fun e w' => ∃ A' c', e = .returned (.slice A' (n + k) c') ∧ Reads w' w'.heap.size 1 A' (n + k) (bcells (l ++ Go.leBytes k num)) ∧ Below w.heap.size w w' :=
 (rput_yes A n c num k l w hr hn h1 h2).mono fun _ _ ⟨v, he, ho, hb⟩ => by
  obtain ⟨A', c', rfl, _⟩ := own_form ho
  exact ⟨A', c', he, Reads.of_own ho, hb⟩
end Go.Proofs.YtmmjckokjmpfpaaGreat

