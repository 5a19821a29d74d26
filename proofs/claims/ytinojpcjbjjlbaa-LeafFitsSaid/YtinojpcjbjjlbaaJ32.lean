/-
  Items as the code's reader reads them: like the document's, but any kind that is not 1 is read as a value in place. Plain lemmas. No statement is proved here.
-/
import Derived.Test.YtinojpcjbjjlbaaJ30
import Derived.Test.YtinojpcjbjjlbaaJ31
namespace Go.Proofs.Ytinojpcjbjjlbaa
open Go.RowKit
open Go.Lib hiding intOf
set_option linter.unusedVariables false
set_option linter.unusedSimpArgs false

def normK : List UInt8 → List UInt8
  | [] => []
  | o :: r => (if o = 1 then 1 else 0) :: r
def stepC (bs : List UInt8) : Option (It × List UInt8) := stepI (normK bs)
def parseC : Nat → List UInt8 → Option (List It × List UInt8)
  | 0, bs => some ([], bs)
  | k + 1, bs => match parseC k bs with
    | none => none
    | some (l, r) => match stepC r with
      | none => none
      | some (b, r') => some (l ++ [b], r')
theorem tailI_kind {o : UInt8} {ky : ByteArray} {r : List UInt8} {p : It × List UInt8} (h : tailI o ky r = some p) : o = 0 ∨ o = 1 := by
  unfold tailI at h
  by_cases h0 : o = 0
  · exact .inl h0
  · by_cases h1 : o = 1
    · exact .inr h1
    · rw [if_neg h0, if_neg h1] at h
      cases h
theorem stepC_of {bs : List UInt8} {p : It × List UInt8} (h : stepI bs = some p) : stepC bs = some p := by
  rcases bs with _ | ⟨o, bs⟩
  · exact h
  rcases bs with _ | ⟨n, r⟩
  · exact absurd h (by simp [stepI])
  have h2 := h
  simp only [stepI] at h2
  split at h2
  · cases h2
  rcases tailI_kind h2 with rfl | rfl
  · exact h
  · exact h
theorem parseC_of : ∀ {k : Nat} {bs : List UInt8} {p : List It × List UInt8}, parseI k bs = some p → parseC k bs = some p
  | 0, bs, p, h => h
  | k + 1, bs, p, h => by
    simp only [parseI] at h
    split at h
    · cases h
    · rename_i l r hp
      split at h
      · cases h
      · rename_i b r' hs
        simp only [parseC, parseC_of hp, stepC_of hs]
        exact h
theorem parseC_len : ∀ {k : Nat} {bs : List UInt8} {l : List It} {r : List UInt8}, parseC k bs = some (l, r) → l.length = k
  | 0, bs, l, r, h => by simp [parseC] at h; obtain ⟨rfl, _⟩ := h; rfl
  | k + 1, bs, l, r, h => by
    simp only [parseC] at h
    split at h
    · cases h
    · rename_i l0 r0 hp
      split at h
      · cases h
      · injection h with h
        injection h with h1 h2
        rw [← h1, List.length_append, parseC_len hp]
        rfl
theorem normK_len (bs : List UInt8) : (normK bs).length = bs.length := by
  rcases bs with _ | ⟨o, r⟩ <;> rfl
theorem stepC_size {bs r : List UInt8} {b : It} (h : stepC bs = some (b, r)) : oneI b + r.length = bs.length := by
  have h1 := stepI_back h
  rw [← normK_len bs, h1, List.length_append, It.bytes_len]
theorem parseC_size : ∀ {k : Nat} {bs : List UInt8} {l : List It} {r : List UInt8}, parseC k bs = some (l, r) → sizeI l + r.length = bs.length
  | 0, bs, l, r, h => by simp [parseC] at h; obtain ⟨rfl, rfl⟩ := h; simp [sizeI]
  | k + 1, bs, l, r, h => by
    simp only [parseC] at h
    split at h
    · cases h
    · rename_i l0 r0 hp
      split at h
      · cases h
      · rename_i b r' hs
        injection h with h
        injection h with h1 h2
        subst h2
        rw [← h1, sizeI_snoc]
        have h3 := parseC_size hp
        have h4 := stepC_size hs
        omega
theorem parseC_step {k : Nat} {bs r r' : List UInt8} {l : List It} {b : It} (h : parseC k bs = some (l, r)) (hs : stepC r = some (b, r')) : parseC (k + 1) bs = some (l ++ [b], r') := by simp only [parseC, h, hs]
theorem parseC_stop {k : Nat} {bs r : List UInt8} {l : List It} (h : parseC k bs = some (l, r)) (hs : stepC r = none) : parseC (k + 1) bs = none := by simp only [parseC, h, hs]
theorem parseC_none {k : Nat} {bs : List UInt8} (h : parseC k bs = none) : ∀ d, parseC (k + d) bs = none
  | 0 => h
  | d + 1 => by rw [← Nat.add_assoc]; simp only [parseC, parseC_none h d]
/-- Where the code reads no items the document's reading has none. -/
theorem readI_unread {kd ct : Int} {pg lk ty : Nat} {bd : ByteArray} (h : parseC ct.toNat bd.data.toList = none) : readI kd ct pg lk ty bd = none := by
  rcases hp : parseI ct.toNat bd.data.toList with _ | p
  · rw [readI, hp]
  · rw [parseC_of hp] at h
    cases h
theorem readI_unfit {kd ct : Int} {pg lk ty : Nat} {bd : ByteArray} (h : ∀ l, mayP8 ((bd.size + 24 : Nat) : Int) pg ty l = false) : readI kd ct pg lk ty bd = none := by
  rcases hr : readI kd ct pg lk ty bd with _ | l
  · rfl
  · have h1 := (readI_some hr).1
    rw [h l] at h1
    cases h1
/-- What a reading has is what the code reads. -/
theorem readI_read {kd ct : Int} {pg lk ty : Nat} {bd : ByteArray} {l l' : List It} {r : List UInt8} (h : parseC ct.toNat bd.data.toList = some (l, r)) (hr : readI kd ct pg lk ty bd = some l') : l' = l := by
  rcases hp : parseI ct.toNat bd.data.toList with _ | ⟨q, r'⟩
  · rw [readI, hp] at hr
    cases hr
  · have h1 := parseC_of hp
    rw [h] at h1
    injection h1 with h1
    injection h1 with h1 _
    rw [readI, hp] at hr
    simp only at hr
    split at hr
    · injection hr with hr
      rw [← hr, ← h1]
    · cases hr
theorem orL_two (a b : Int) : orL [a, b] = 0 ↔ a = 0 ∧ b = 0 := by
  by_cases h : a = 0
  · by_cases h2 : b = 0
    · simp [orL, h, h2]
    · simp [orL, h, h2]
  · simp [orL, h]
theorem orL_three (a b c : Int) : orL [a, b, c] = 0 ↔ a = 0 ∧ b = 0 ∧ c = 0 := by
  by_cases h : a = 0
  · by_cases h2 : b = 0
    · by_cases h3 : c = 0
      · simp [orL, h, h2, h3]
      · simp [orL, h, h2, h3]
    · simp [orL, h, h2]
  · simp [orL, h]
/-- The front of an item as the code reads it, told by three readings. -/
theorem headC {s t0 t1 t2 ky : ByteArray} {vo vn : Nat} {x0 x1 x2 : Int} (h0 : tookN 1 s vo x0 t0) (h1 : tookN 1 t0 vn x1 t1) (h2 : tookB vn t1 ky x2 t2) :
    (x0 = 0 ∧ x1 = 0 ∧ x2 = 0 ∧ stepC s.data.toList = tailI (if vo = 1 then 1 else 0) ky t2.data.toList) ∨ (¬ (x0 = 0 ∧ x1 = 0 ∧ x2 = 0) ∧ stepC s.data.toList = none) := by
  rcases h0 with ⟨a0, rfl, e0, f0⟩ | ⟨a0, rfl, f0⟩
  rotate_left
  · exact .inr ⟨by simp, by rw [list_none a0]; rfl⟩
  obtain ⟨o, r, hs⟩ := list_one (l := s.data.toList) (by rw [size_list]; exact a0)
  have hv : vo = o.toNat := by rw [e0, hs]; exact leNat_one o
  have hr : t0.data.toList = r := by rw [f0, ext_drop, hs]; rfl
  rcases h1 with ⟨a1, rfl, e1, f1⟩ | ⟨a1, rfl, f1⟩
  rotate_left
  · have : r = [] := by rw [← hr]; exact list_none a1
    exact .inr ⟨by simp, by rw [hs, this]; rfl⟩
  obtain ⟨n, q, hq⟩ := list_one (l := t0.data.toList) (by rw [size_list]; exact a1)
  have hn : vn = n.toNat := by rw [e1, hq]; exact leNat_one n
  have hq1 : t1.data.toList = q := by rw [f1, ext_drop, hq]; rfl
  have hrq : r = n :: q := by rw [← hr, hq]
  have hl : t1.size = q.length := by rw [← hq1, size_list]
  rcases h2 with ⟨a2, rfl, e2, f2⟩ | ⟨a2, rfl, f2⟩
  rotate_left
  · refine .inr ⟨by simp, ?_⟩
    rw [hs, hrq]
    simp only [stepC, normK, stepI]
    rw [if_pos (by omega)]
  · refine .inl ⟨rfl, rfl, rfl, ?_⟩
    have h2' : t2.data.toList = q.drop n.toNat := by rw [f2, ext_drop, hq1, hn]
    have hky : ky = ⟨(q.take n.toNat).toArray⟩ := by
      apply bytes_ext
      rw [e2, ext_take, hq1, hn]
    have ho : (o = 1) ↔ (vo = 1) := by
      rw [hv]
      exact ⟨fun h => by rw [h]; rfl, fun h => by rw [← UInt8.toNat_inj]; exact h⟩
    rw [hs, hrq]
    simp only [stepC, normK, stepI]
    rw [if_neg (by omega), h2', hky]
    simp only [ho]
/-- What the code's reader makes of an item: the item and what is left, or an error. -/
def itemOk (s : ByteArray) (b : It) (x : Int) (s' : ByteArray) : Prop := match stepC s.data.toList with
  | none => x ≠ 0
  | some (b', r) => x = 0 ∧ b' = b ∧ s'.data.toList = r
theorem item_ov {s t0 t1 t2 t3 t4 ky : ByteArray} {vn v3 v4 : Nat} {x0 x1 x2 x3 x4 : Int} (h0 : tookN 1 s 1 x0 t0) (h1 : tookN 1 t0 vn x1 t1) (h2 : tookB vn t1 ky x2 t2) (h3 : tookN 4 t2 v3 x3 t3) (h4 : tookN 4 t3 v4 x4 t4) :
    itemOk s ⟨ky, ⟨#[]⟩, true, (v3 : Nat), v4⟩ (orL [x0, orL [x1, x2], orL [x3, x4]]) t4 := by
  rcases headC h0 h1 h2 with ⟨rfl, rfl, rfl, hs⟩ | ⟨hx, hs⟩
  · rw [if_pos rfl] at hs
    rcases tail8_ov (ky := ky) h3 h4 with ⟨rfl, rfl, ht⟩ | ⟨hx, ht⟩
    · rw [itemOk, hs, ht]
      exact ⟨by simp [orL], rfl, rfl⟩
    · rw [itemOk, hs, ht]
      intro h
      rw [orL_three, orL_two, orL_two] at h
      exact hx h.2.2
  · rw [itemOk, hs]
    intro h
    rw [orL_three, orL_two, orL_two] at h
    exact hx ⟨h.1, h.2.1.1, h.2.1.2⟩
theorem item_in {s t0 t1 t2 t3 t4 ky vl : ByteArray} {vo vn v3 : Nat} {x0 x1 x2 x3 x4 : Int} (hv : vo ≠ 1) (h0 : tookN 1 s vo x0 t0) (h1 : tookN 1 t0 vn x1 t1) (h2 : tookB vn t1 ky x2 t2) (h3 : tookN 1 t2 v3 x3 t3) (h4 : tookB v3 t3 vl x4 t4) :
    itemOk s ⟨ky, vl, false, 0, 0⟩ (orL [x0, orL [x1, x2], orL [x3, x4]]) t4 := by
  rcases headC h0 h1 h2 with ⟨rfl, rfl, rfl, hs⟩ | ⟨hx, hs⟩
  · rw [if_neg hv] at hs
    rcases tail8_in (ky := ky) h3 h4 with ⟨rfl, rfl, ht⟩ | ⟨hx, ht⟩
    · rw [itemOk, hs, ht]
      exact ⟨by simp [orL], rfl, rfl⟩
    · rw [itemOk, hs, ht]
      intro h
      rw [orL_three, orL_two, orL_two] at h
      exact hx h.2.2
  · rw [itemOk, hs]
    intro h
    rw [orL_three, orL_two, orL_two] at h
    exact hx ⟨h.1, h.2.1.1, h.2.1.2⟩
theorem tookN_le {k : Nat} {t t' : ByteArray} {v : Nat} {x : Int} (h : tookN k t v x t') : t'.size ≤ t.size := by
  rcases h with ⟨_, _, _, rfl⟩ | ⟨_, _, rfl⟩
  · rw [ByteArray.size_extract]; omega
  · exact Nat.le_refl _
theorem tookB_le {k : Nat} {t v t' : ByteArray} {x : Int} (h : tookB k t v x t') : t'.size ≤ t.size := by
  rcases h with ⟨_, _, _, rfl⟩ | ⟨_, _, rfl⟩
  · rw [ByteArray.size_extract]; omega
  · exact Nat.le_refl _
end Go.Proofs.Ytinojpcjbjjlbaa
