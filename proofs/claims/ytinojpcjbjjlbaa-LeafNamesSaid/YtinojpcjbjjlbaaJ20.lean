/-
  An item page's body as plain data, and items read from bytes; plain lemmas. No statement is proved here.
-/
import Derived.Test.YtinojpcjbjjlbaaJ17
import Derived.Test.YtinojpcjbjjlbaaJ18
import Derived.Test.YtinojpcjbjjlbaaJ14
import Derived.Test.YtinojpcjbjjlbaaJ19
namespace Go.Proofs.Ytinojpcjbjjlbaa
open Go.RowKit
open Go.Lib hiding intOf
set_option linter.unusedVariables false
set_option linter.unusedSimpArgs false

/-- The bytes of an item, and of items. -/
def It.tail (b : It) : List UInt8 := if b.ov then leBytes 4 b.ln.toNat ++ leBytes 4 b.hd else leBytes 1 b.vl.size ++ b.vl.data.toList
def It.bytes (b : It) : List UInt8 := leBytes 1 (if b.ov then 1 else 0) ++ (leBytes 1 b.ky.size ++ (b.ky.data.toList ++ b.tail))
def bytesI (l : List It) : List UInt8 := l.flatMap It.bytes
theorem It.bytes_len (b : It) : b.bytes.length = oneI b := by
  unfold It.bytes It.tail oneI
  split
  · simp only [List.length_append, leB_len, size_list]; omega
  · simp only [List.length_append, leB_len, size_list]; omega
theorem bytesI_len (l : List It) : (bytesI l).length = sizeI l := by
  induction l with
  | nil => rfl
  | cons b l ih =>
    simp only [bytesI, List.flatMap_cons, List.length_append, It.bytes_len, sizeI] at ih ⊢
    rw [ih]
theorem bytesI_take_succ {l : List It} {k : Nat} {x : It} (h : l[k]? = some x) : bytesI (l.take (k + 1)) = bytesI (l.take k) ++ x.bytes := by
  obtain ⟨hk, rfl⟩ := List.getElem?_eq_some_iff.1 h
  rw [List.take_succ_eq_append_getElem hk]
  simp only [bytesI, List.flatMap_append, List.flatMap_cons, List.flatMap_nil, List.append_nil]
/-- The body of a leaf. -/
def itemBody (size : Nat) (l : List It) : ByteArray := ⟨(bytesI l ++ List.replicate (size - 24 - sizeI l) 0).toArray⟩
/-- Behind the key of an item. -/
def tailI (o : UInt8) (ky : ByteArray) (r : List UInt8) : Option (It × List UInt8) :=
  if o = 0 then (match r with
    | [] => none
    | m :: t => if t.length < m.toNat then none else some (⟨ky, ⟨(t.take m.toNat).toArray⟩, false, 0, 0⟩, t.drop m.toNat))
  else if o = 1 then (if r.length < 8 then none else some (⟨ky, ⟨#[]⟩, true, (leNat (r.take 4) : Nat), leNat ((r.drop 4).take 4)⟩, (r.drop 4).drop 4))
  else none
/-- One item from the front. -/
def stepI : List UInt8 → Option (It × List UInt8)
  | [] => none
  | [_] => none
  | o :: n :: r => if r.length < n.toNat then none else tailI o ⟨(r.take n.toNat).toArray⟩ (r.drop n.toNat)
/-- So many items from the front. -/
def parseI : Nat → List UInt8 → Option (List It × List UInt8)
  | 0, bs => some ([], bs)
  | k + 1, bs => match parseI k bs with
    | none => none
    | some (l, r) => match stepI r with
      | none => none
      | some (b, r') => some (l ++ [b], r')
theorem parseI_len : ∀ {k : Nat} {bs : List UInt8} {l : List It} {r : List UInt8}, parseI k bs = some (l, r) → l.length = k
  | 0, bs, l, r, h => by simp [parseI] at h; obtain ⟨rfl, _⟩ := h; rfl
  | k + 1, bs, l, r, h => by
    simp only [parseI] at h
    split at h
    · cases h
    · rename_i l0 r0 h0
      split at h
      · cases h
      · rename_i b r1 _
        injection h with h
        injection h with h1 _
        rw [← h1, List.length_append, parseI_len h0]
        rfl
theorem leBytes_one (n : UInt8) : leBytes 1 n.toNat = [n] := by
  have := leBytes_leNat [n]
  simpa [leNat] using this
theorem tailI_back {o : UInt8} {ky : ByteArray} {r r' : List UInt8} {b : It} (h : tailI o ky r = some (b, r')) : b.ky = ky ∧ o.toNat = (if b.ov then 1 else 0) ∧ r = b.tail ++ r' := by
  unfold tailI at h
  split at h
  · rename_i ho
    split at h
    · cases h
    · rename_i m t
      split at h
      · cases h
      · rename_i hl
        injection h with h
        injection h with h1 h2
        subst h1 h2
        refine ⟨rfl, by rw [ho]; rfl, ?_⟩
        have hz : (⟨(t.take m.toNat).toArray⟩ : ByteArray).size = m.toNat := by
          show (t.take m.toNat).toArray.size = m.toNat
          simp; omega
        simp only [It.tail, Bool.false_eq_true, if_false]
        rw [hz, leBytes_one]
        simp only [List.cons_append, List.nil_append, List.append_assoc, List.take_append_drop]
  · split at h
    · rename_i ho
      split at h
      · cases h
      · rename_i hl
        injection h with h
        injection h with h1 h2
        subst h1 h2
        refine ⟨rfl, by rw [ho]; rfl, ?_⟩
        have e1 : leBytes 4 (leNat (r.take 4)) = r.take 4 := by
          have := leBytes_leNat (r.take 4)
          rwa [show (r.take 4).length = 4 by simp; omega] at this
        have e2 : leBytes 4 (leNat ((r.drop 4).take 4)) = (r.drop 4).take 4 := by
          have := leBytes_leNat ((r.drop 4).take 4)
          rwa [show ((r.drop 4).take 4).length = 4 by simp; omega] at this
        simp only [It.tail, if_true, Int.toNat_natCast, e1, e2, List.append_assoc, List.take_append_drop]
    · cases h
theorem stepI_back {bs r : List UInt8} {b : It} (h : stepI bs = some (b, r)) : bs = b.bytes ++ r := by
  match bs, h with
  | [], h => simp [stepI] at h
  | [_], h => simp [stepI] at h
  | o :: n :: t, h =>
    simp only [stepI] at h
    split at h
    · cases h
    · rename_i hl
      obtain ⟨h1, h2, h3⟩ := tailI_back h
      have hz : (⟨(t.take n.toNat).toArray⟩ : ByteArray).size = n.toNat := by
        show (t.take n.toNat).toArray.size = n.toNat
        simp; omega
      simp only [It.bytes, h1, ← h2]
      rw [hz, leBytes_one, leBytes_one]
      simp only [List.cons_append, List.nil_append, List.append_assoc, ← h3, List.take_append_drop]
theorem parseI_back : ∀ {k : Nat} {bs : List UInt8} {l : List It} {r : List UInt8}, parseI k bs = some (l, r) → bs = bytesI l ++ r
  | 0, bs, l, r, h => by simp [parseI] at h; obtain ⟨rfl, rfl⟩ := h; simp [bytesI]
  | k + 1, bs, l, r, h => by
    simp only [parseI] at h
    split at h
    · cases h
    · rename_i l0 r0 h0
      split at h
      · cases h
      · rename_i b r1 hs
        injection h with h
        injection h with h1 h2
        subst h1 h2
        rw [parseI_back h0, stepI_back hs]
        simp [bytesI]
theorem parseI_size {k : Nat} {bs : List UInt8} {l : List It} {r : List UInt8} (h : parseI k bs = some (l, r)) : sizeI l + r.length = bs.length := by
  rw [parseI_back h, List.length_append, bytesI_len]
theorem parseI_none {k : Nat} {bs : List UInt8} (h : parseI k bs = none) : ∀ d, parseI (k + d) bs = none
  | 0 => h
  | d + 1 => by rw [← Nat.add_assoc]; simp only [parseI, parseI_none h d]
theorem parseI_step {k : Nat} {bs r r' : List UInt8} {l : List It} {b : It} (h : parseI k bs = some (l, r)) (hs : stepI r = some (b, r')) : parseI (k + 1) bs = some (l ++ [b], r') := by simp only [parseI, h, hs]
theorem parseI_stop {k : Nat} {bs r : List UInt8} {l : List It} (h : parseI k bs = some (l, r)) (hs : stepI r = none) : parseI (k + 1) bs = none := by simp only [parseI, h, hs]
theorem sizeI_mem {l : List It} {b : It} (h : b ∈ l) : oneI b ≤ sizeI l := by
  induction l with
  | nil => cases h
  | cons c l ih =>
    simp only [sizeI]
    rcases List.mem_cons.1 h with rfl | h
    · omega
    · have := ih h; omega
theorem tailI_vl {o : UInt8} {ky : ByteArray} {r r' : List UInt8} {b : It} (h : tailI o ky r = some (b, r')) : b.ov = true → b.vl.size = 0 := by
  unfold tailI at h
  split at h
  · split at h
    · cases h
    · split at h
      · cases h
      · injection h with h
        injection h with h1 h2
        subst h1
        intro hb
        cases hb
  · split at h
    · split at h
      · cases h
      · injection h with h
        injection h with h1 h2
        subst h1
        intro _
        rfl
    · cases h
theorem stepI_vl {bs r : List UInt8} {b : It} (h : stepI bs = some (b, r)) : b.ov = true → b.vl.size = 0 := by
  match bs, h with
  | [], h => simp [stepI] at h
  | [_], h => simp [stepI] at h
  | o :: n :: t, h =>
    simp only [stepI] at h
    split at h
    · cases h
    · exact tailI_vl h
theorem parseI_vl : ∀ {k : Nat} {bs : List UInt8} {l : List It} {r : List UInt8}, parseI k bs = some (l, r) → ∀ b, b ∈ l → b.ov = true → b.vl.size = 0
  | 0, bs, l, r, h, b, hb => by simp [parseI] at h; obtain ⟨rfl, _⟩ := h; cases hb
  | k + 1, bs, l, r, h, b, hb => by
    simp only [parseI] at h
    split at h
    · cases h
    · rename_i l0 r0 h0
      split at h
      · cases h
      · rename_i x r1 hs
        injection h with h
        injection h with h1 _
        rw [← h1] at hb
        rcases List.mem_append.1 hb with hb | hb
        · exact parseI_vl h0 b hb
        · simp only [List.mem_singleton] at hb
          subst hb
          exact stepI_vl hs
/-- The texts of what was read from few bytes are within reach. -/
theorem parseI_near {k : Nat} {bs : List UInt8} {l : List It} {r : List UInt8} (h : parseI k bs = some (l, r)) (hs : bs.length ≤ 100000) : NearI l := fun b hb => by
  have h1 := parseI_back h
  have h2 : sizeI l + r.length = bs.length := by rw [h1, List.length_append, bytesI_len]
  have h3 := sizeI_mem hb
  have h4 := parseI_vl h b hb
  unfold oneI at h3
  split at h3
  · rename_i hov
    have := h4 hov
    exact ⟨by omega, by omega⟩
  · exact ⟨by omega, by omega⟩
/-- An item that was read stays in the list. -/
theorem parseI_keeps {k : Nat} {bs r : List UInt8} {l : List It} {b : It} (h : parseI k bs = some (l, r)) (hb : b ∈ l) : ∀ d l' r', parseI (k + d) bs = some (l', r') → b ∈ l'
  | 0, l', r', h' => by rw [Nat.add_zero, h] at h'; injection h' with h'; injection h' with h1 _; rw [← h1]; exact hb
  | d + 1, l', r', h' => by
    rw [← Nat.add_assoc] at h'
    simp only [parseI] at h'
    split at h'
    · cases h'
    · rename_i l0 r0 h0
      split at h'
      · cases h'
      · injection h' with h'
        injection h' with h1 _
        rw [← h1]
        exact List.mem_append_left _ (parseI_keeps h hb d _ _ h0)
theorem tailI_bytes (b : It) (t : List UInt8) (h : okIt b = true) : tailI (if b.ov then 1 else 0) b.ky (b.tail ++ t) = some (b, t) := by
  obtain ⟨ky, vl, ov, ln, hd⟩ := b
  cases ov
  · simp only [okIt, keyF, Bool.false_eq_true, if_false, Bool.and_eq_true, decide_eq_true_eq] at h
    obtain ⟨_, hv, hln, hhd⟩ := h
    subst hln hhd
    have e1 : leBytes 1 vl.size = [UInt8.ofNat vl.size] := by
      have := leBytes_one (UInt8.ofNat vl.size)
      rwa [show (UInt8.ofNat vl.size).toNat = vl.size by simp; omega] at this
    have hn : (UInt8.ofNat vl.size).toNat = vl.size := by simp; omega
    have hl : vl.data.toList.length = vl.size := size_list _
    simp only [It.tail, tailI, Bool.false_eq_true, if_false, e1, List.cons_append, List.nil_append, hn, if_true]
    rw [if_neg (by simp only [List.length_append, hl]; omega), List.take_left' hl, List.drop_left' hl]
  · simp only [okIt, keyF, numB, if_true, Bool.and_eq_true, decide_eq_true_eq] at h
    obtain ⟨_, hv, hl1, hl2, hh⟩ := h
    have l4 : ∀ v, (leBytes 4 v).length = 4 := fun v => leB_len 4 v
    have hve : vl = ⟨#[]⟩ := by
      apply bytes_ext
      have : vl.data.toList.length = 0 := by rw [size_list]; exact hv
      rw [List.eq_nil_of_length_eq_zero this]
    subst hve
    have r1 : leNat (leBytes 4 ln.toNat) = ln.toNat := by rw [leNat_leBytes_mod]; omega
    have r2 : leNat (leBytes 4 hd) = hd := by rw [leNat_leBytes_mod]; omega
    simp only [It.tail, tailI, if_true, List.append_assoc]
    rw [if_neg (by decide), if_neg (by simp only [List.length_append, l4]; omega), List.take_left' (l4 _), List.drop_left' (l4 _), List.take_left' (l4 _), List.drop_left' (l4 _), r1, r2]
    congr 2
    exact It.ext_ rfl rfl rfl (by show ((ln.toNat : Nat) : Int) = ln; omega) rfl
theorem okIt_key {b : It} (h : okIt b = true) : b.ky.size ≤ 40 := by
  unfold okIt at h
  split at h <;> simp only [keyF, Bool.and_eq_true, decide_eq_true_eq] at h <;> exact h.1
theorem stepI_bytes (b : It) (t : List UInt8) (h : okIt b = true) : stepI (b.bytes ++ t) = some (b, t) := by
  have hk := okIt_key h
  have e1 : leBytes 1 b.ky.size = [UInt8.ofNat b.ky.size] := by
    have := leBytes_one (UInt8.ofNat b.ky.size)
    rwa [show (UInt8.ofNat b.ky.size).toNat = b.ky.size by simp; omega] at this
  have e0 : leBytes 1 (if b.ov then 1 else 0) = [if b.ov then 1 else 0] := by cases b.ov <;> rfl
  have hn : (UInt8.ofNat b.ky.size).toNat = b.ky.size := by simp; omega
  have hl : b.ky.data.toList.length = b.ky.size := size_list _
  have hkk : (⟨b.ky.data.toList.toArray⟩ : ByteArray) = b.ky := by apply bytes_ext; simp
  simp only [It.bytes, e0, e1, List.cons_append, List.nil_append, List.append_assoc, stepI, hn]
  rw [if_neg (by simp only [List.length_append, hl]; omega), List.take_left' hl, List.drop_left' hl, hkk, tailI_bytes b t h]
theorem parseI_bytes (l : List It) (t : List UInt8) (h : ∀ b, b ∈ l → okIt b = true) : ∀ k, k ≤ l.length → parseI k (bytesI l ++ t) = some (l.take k, bytesI (l.drop k) ++ t)
  | 0, _ => by simp [parseI]
  | k + 1, hk => by
    have ih := parseI_bytes l t h k (by omega)
    have hx : l.drop k = l[k] :: l.drop (k + 1) := List.drop_eq_getElem_cons (by omega)
    have hs : stepI (bytesI (l.drop k) ++ t) = some (l[k], bytesI (l.drop (k + 1)) ++ t) := by
      rw [hx]
      simp only [bytesI, List.flatMap_cons, List.append_assoc]
      exact stepI_bytes l[k] _ (h _ (List.getElem_mem _))
    simp only [parseI, ih, hs]
    rw [List.take_succ_eq_append_getElem (by omega)]
theorem parseI_all (l : List It) (t : List UInt8) (h : ∀ b, b ∈ l → okIt b = true) : parseI l.length (bytesI l ++ t) = some (l, t) := by
  have := parseI_bytes l t h l.length (Nat.le_refl _)
  simpa [bytesI] using this
/-- Items may be a page's. -/
def mayP8 (size : Int) (n tx : Nat) (l : List It) : Bool := goodSize size && (mayI l && (decide ((sizeI l : Int) ≤ size - 24) && (numB n && decide (tx ≤ 4611686018427387904))))
/-- The items of which a page is the page. -/
def readI (kd ct : Int) (pg lk ty : Nat) (bd : ByteArray) : Option (List It) :=
  match parseI ct.toNat bd.data.toList with
  | none => none
  | some (l, _) => if mayP8 ((bd.size + 24 : Nat) : Int) pg ty l && decide (kd = 4 ∧ ct = l.length ∧ lk = 0 ∧ bd = itemBody (bd.size + 24) l) then some l else none
theorem mayP8_parts {z n tx : Nat} {l : List It} (h : mayP8 z n tx l = true) : allOkI l = true ∧ 0 < l.length ∧ goodSize z = true ∧ (sizeI l ≤ z - 24 ∧ 24 ≤ z) ∧ (2 ≤ n ∧ n ≤ 2147483647) ∧ tx ≤ 4611686018427387904 := by
  simp only [mayP8, mayI, numB, Bool.and_eq_true, decide_eq_true_eq] at h
  obtain ⟨h1, ⟨h2, h3⟩, h4, h5, h6⟩ := h
  have := good_pos h1
  exact ⟨h2, h3, h1, by omega, h5, h6⟩
theorem itemBody_size (z : Nat) (l : List It) (h : sizeI l ≤ z - 24) : (itemBody z l).size = z - 24 := by
  show (bytesI l ++ List.replicate (z - 24 - sizeI l) 0).toArray.size = _
  rw [List.size_toArray, List.length_append, List.length_replicate, bytesI_len]
  omega
theorem allOkI_mem {l : List It} (h : allOkI l = true) {b : It} (hb : b ∈ l) : okIt b = true := by
  obtain ⟨i, hi, rfl⟩ := List.mem_iff_getElem.1 hb
  exact allOkI_ok h (List.getElem?_eq_getElem hi)
theorem readI_page {z n tx : Nat} {l : List It} (h : mayP8 z n tx l = true) : readI 4 l.length n 0 tx (itemBody z l) = some l := by
  obtain ⟨hall, h0, hg, hroom, hn, htx⟩ := mayP8_parts h
  have hgp := good_pos hg
  have hsz := itemBody_size z l hroom.1
  have hz : (itemBody z l).size + 24 = z := by omega
  unfold readI
  have hp : parseI (l.length : Int).toNat (itemBody z l).data.toList = some (l, List.replicate (z - 24 - sizeI l) 0) := by
    show parseI l.length _ = _
    have : (itemBody z l).data.toList = bytesI l ++ List.replicate (z - 24 - sizeI l) 0 := by simp [itemBody]
    rw [this]
    exact parseI_all l _ fun b hb => allOkI_mem hall hb
  simp only [hp, hz]
  rw [if_pos (by rw [h]; simp)]
theorem readI_some {kd ct : Int} {pg lk ty : Nat} {bd : ByteArray} {l : List It} (h : readI kd ct pg lk ty bd = some l) : mayP8 ((bd.size + 24 : Nat) : Int) pg ty l = true ∧ kd = 4 ∧ ct = l.length ∧ lk = 0 ∧ bd = itemBody (bd.size + 24) l := by
  unfold readI at h
  split at h
  · cases h
  · split at h
    · rename_i hc
      injection h with h
      subst h
      rw [Bool.and_eq_true, decide_eq_true_eq] at hc
      exact ⟨hc.1, hc.2⟩
    · cases h
theorem mayP8_bad {size : Int} {n tx : Nat} {l : List It} {b : It} (hb : b ∈ l) (h : okIt b = false) : mayP8 size n tx l = false := by
  rw [Bool.eq_false_iff]
  intro hm
  have : allOkI l = true := by simp only [mayP8, mayI, Bool.and_eq_true] at hm; exact hm.2.1.1
  rw [allOkI_mem this hb] at h
  cases h
/-- Where an item that was read is not valid, the page is none. -/
theorem readI_bad {kd ct : Int} {pg lk ty : Nat} {bd : ByteArray} {k : Nat} {l : List It} {r : List UInt8} {b : It} (hk : k ≤ ct.toNat) (hp : parseI k bd.data.toList = some (l, r)) (hb : b ∈ l) (h : okIt b = false) : readI kd ct pg lk ty bd = none := by
  unfold readI
  split
  · rfl
  · rename_i l' r' hp'
    rw [← Nat.add_sub_cancel' hk] at hp'
    rw [mayP8_bad (parseI_keeps hp hb _ _ _ hp') h]
    rfl
/-- The items that so many readings make of a body, valid and with zero bytes behind. -/
def itemsI (ct : Int) (bd : List UInt8) : Option (List It) :=
  match parseI ct.toNat bd with
  | none => none
  | some (l, r) => if mayI l && zeros r then some l else none
/-- All of a page but its count and body is a leaf's. -/
def headI (kd : Int) (pg lk ty : Nat) (bd : ByteArray) : Bool := decide (kd = 4) && (decide (lk = 0) && (numB pg && (decide (ty ≤ 4611686018427387904) && goodSize ((bd.size + 24 : Nat) : Int))))
theorem readI_is (kd ct : Int) (pg lk ty : Nat) (bd : ByteArray) : readI kd ct pg lk ty bd = if headI kd pg lk ty bd then itemsI ct bd.data.toList else none := by
  rw [readI, itemsI]
  rcases hp : parseI ct.toNat bd.data.toList with _ | ⟨l, r⟩
  · simp
  · have hs := parseI_size hp
    have hb := parseI_back hp
    have hl := parseI_len hp
    rw [size_list] at hs
    have key : (mayP8 ((bd.size + 24 : Nat) : Int) pg ty l && decide (kd = 4 ∧ ct = l.length ∧ lk = 0 ∧ bd = itemBody (bd.size + 24) l)) = (headI kd pg lk ty bd && (mayI l && zeros r)) := by
      have hfit : decide ((sizeI l : Int) ≤ ((bd.size + 24 : Nat) : Int) - 24) = true := by simp; omega
      rw [mayP8, hfit, headI]
      rcases hm : mayI l with _ | _
      · simp
      · have hpos : 0 < l.length := by simp only [mayI, Bool.and_eq_true, decide_eq_true_eq] at hm; exact hm.2
        have hct : ct = l.length := by omega
        have hbd : (bd = itemBody (bd.size + 24) l) ↔ zeros r = true := by
          have hr : bd.size + 24 - 24 - sizeI l = r.length := by omega
          constructor
          · intro h
            have h1 : bd.data.toList = bytesI l ++ List.replicate (bd.size + 24 - 24 - sizeI l) 0 := by
              have : (itemBody (bd.size + 24) l).data.toList = bytesI l ++ List.replicate (bd.size + 24 - 24 - sizeI l) 0 := by simp [itemBody]
              rw [← this, ← h]
            rw [hb] at h1
            rw [List.append_cancel_left h1]
            exact zeros_of_rep _
          · intro h
            apply bytes_ext
            have : (itemBody (bd.size + 24) l).data.toList = bytesI l ++ List.replicate (bd.size + 24 - 24 - sizeI l) 0 := by simp [itemBody]
            rw [this, hb, hr, ← zeros_rep h]
        rw [Bool.eq_iff_iff]
        simp only [Bool.and_eq_true, decide_eq_true_eq, Bool.true_and, true_and]
        rw [hbd]
        constructor
        · rintro ⟨⟨a1, a2, a3⟩, a4, a5, a6, a7⟩
          exact ⟨⟨a4, a6, a2, a3, a1⟩, a7⟩
        · rintro ⟨⟨a4, a6, a2, a3, a1⟩, a7⟩
          exact ⟨⟨a1, a2, a3⟩, a4, hct, a6, a7⟩
    simp only [key]
    rcases headI kd pg lk ty bd with _ | _ <;> simp
end Go.Proofs.Ytinojpcjbjjlbaa
