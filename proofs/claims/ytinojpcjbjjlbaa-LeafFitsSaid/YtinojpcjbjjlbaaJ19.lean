/-
  Forks read from bytes: what was read is what stands there; plain lemmas. No statement is proved here.
-/
import Derived.Test.YtinojpcjbjjlbaaJ15
namespace Go.Proofs.Ytinojpcjbjjlbaa
open Go.RowKit
open Go.Lib hiding intOf
set_option linter.unusedVariables false
set_option linter.unusedSimpArgs false

theorem leBytes_leNat : ∀ l : List UInt8, leBytes l.length (leNat l) = l
  | [] => rfl
  | b :: t => by
    have hb := b.toNat_lt
    have h1 : (leNat (b :: t)) / 256 = leNat t := by simp only [leNat]; omega
    have h2 : (leNat (b :: t)) % 256 = b.toNat := by simp only [leNat]; omega
    rw [List.length_cons, leBytes, h1, leBytes_leNat t]
    congr 1
    apply UInt8.toNat_inj.1
    first
      | (rw [h2]; simp)
      | (simp [h2])
theorem stepF_back {bs r : List UInt8} {b : Fk} (h : stepF bs = some (b, r)) : bs = b.bytes ++ r := by
  cases bs with
  | nil => simp [stepF] at h
  | cons n t =>
    simp only [stepF] at h
    split at h
    · cases h
    · rename_i hl
      injection h with h
      injection h with h1 h2
      subst h1 h2
      have hs : (t.take n.toNat).toArray.size = n.toNat := by simp; omega
      have e1 : leBytes 1 n.toNat = [n] := by
        have := leBytes_leNat [n]
        simpa [leNat] using this
      have e4 : leBytes 4 (leNat ((t.drop n.toNat).take 4)) = (t.drop n.toNat).take 4 := by
        have := leBytes_leNat ((t.drop n.toNat).take 4)
        rwa [show ((t.drop n.toNat).take 4).length = 4 by simp; omega] at this
      have hz : (⟨(t.take n.toNat).toArray⟩ : ByteArray).size = n.toNat := hs
      simp only [Fk.bytes, e4]
      rw [hz, e1]
      simp only [List.cons_append, List.nil_append, List.append_assoc, List.take_append_drop]
theorem parseF_back : ∀ {k : Nat} {bs : List UInt8} {l : List Fk} {r : List UInt8}, parseF k bs = some (l, r) → bs = bytesF l ++ r
  | 0, bs, l, r, h => by simp [parseF] at h; obtain ⟨rfl, rfl⟩ := h; simp [bytesF]
  | k + 1, bs, l, r, h => by
    simp only [parseF] at h
    split at h
    · cases h
    · rename_i l0 r0 h0
      split at h
      · cases h
      · rename_i b r1 hs
        injection h with h
        injection h with h1 h2
        subst h1 h2
        rw [parseF_back h0, stepF_back hs]
        simp [bytesF]
theorem zeros_rep : ∀ {l : List UInt8}, zeros l = true → l = List.replicate l.length 0
  | [], _ => rfl
  | b :: t, h => by
    simp only [zeros, List.all_cons, Bool.and_eq_true, beq_iff_eq] at h
    rw [List.length_cons, List.replicate_succ, ← zeros_rep (l := t) h.2, h.1]
theorem zeros_of_rep (n : Nat) : zeros (List.replicate n (0 : UInt8)) = true := by simp [zeros]
/-- The forks that so many readings make of a body, valid and with zero bytes behind. -/
def forksF (ct : Int) (bd : List UInt8) : Option (List Fk) :=
  match parseF ct.toNat bd with
  | none => none
  | some (l, r) => if mayF l && zeros r then some l else none
/-- All of a page but its count and body is a branch's. -/
def headF (kd : Int) (pg lk ty : Nat) (bd : ByteArray) : Bool := decide (kd = 3) && (decide (lk = 0) && (numB pg && (decide (ty ≤ 4611686018427387904) && goodSize ((bd.size + 24 : Nat) : Int))))
theorem readF_is (kd ct : Int) (pg lk ty : Nat) (bd : ByteArray) : readF kd ct pg lk ty bd = if headF kd pg lk ty bd then forksF ct bd.data.toList else none := by
  rw [readF, forksF]
  rcases hp : parseF ct.toNat bd.data.toList with _ | ⟨l, r⟩
  · simp
  · have hs := parseF_size hp
    have hb := parseF_back hp
    have hl := parseF_len hp
    rw [size_list] at hs
    have key : (mayP7 ((bd.size + 24 : Nat) : Int) pg ty l && decide (kd = 3 ∧ ct = l.length ∧ lk = 0 ∧ bd = forkBody (bd.size + 24) l)) = (headF kd pg lk ty bd && (mayF l && zeros r)) := by
      have hfit : decide ((sizeF l : Int) ≤ ((bd.size + 24 : Nat) : Int) - 24) = true := by simp; omega
      rw [mayP7, hfit, headF]
      rcases hm : mayF l with _ | _
      · simp
      · have hpos : 0 < l.length := by simp only [mayF, Bool.and_eq_true, decide_eq_true_eq] at hm; exact hm.2
        have hct : ct = l.length := by omega
        have hbd : (bd = forkBody (bd.size + 24) l) ↔ zeros r = true := by
          have hr : bd.size + 24 - 24 - sizeF l = r.length := by omega
          constructor
          · intro h
            have h1 : bd.data.toList = bytesF l ++ List.replicate (bd.size + 24 - 24 - sizeF l) 0 := by
              have : (forkBody (bd.size + 24) l).data.toList = bytesF l ++ List.replicate (bd.size + 24 - 24 - sizeF l) 0 := by simp [forkBody]
              rw [← this, ← h]
            rw [hb] at h1
            rw [List.append_cancel_left h1]
            exact zeros_of_rep _
          · intro h
            apply bytes_ext
            have : (forkBody (bd.size + 24) l).data.toList = bytesF l ++ List.replicate (bd.size + 24 - 24 - sizeF l) 0 := by simp [forkBody]
            rw [this, hb, hr, ← zeros_rep h]
        rw [Bool.eq_iff_iff]
        simp only [Bool.and_eq_true, decide_eq_true_eq, Bool.true_and, true_and]
        rw [hbd]
        constructor
        · rintro ⟨⟨a1, a2, a3⟩, a4, a5, a6, a7⟩
          exact ⟨⟨a4, a6, a2, a3, a1⟩, a7⟩
        · rintro ⟨⟨a4, a6, a2, a3, a1⟩, a7⟩
          exact ⟨⟨a1, a2, a3⟩, a4, hct, a6, a7⟩
    simp only [key]
    rcases headF kd pg lk ty bd with _ | _ <;> simp
end Go.Proofs.Ytinojpcjbjjlbaa
