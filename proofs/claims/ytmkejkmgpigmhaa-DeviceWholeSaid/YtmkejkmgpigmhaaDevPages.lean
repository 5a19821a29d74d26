/-
  Plain lemmas: what a page of an image is behind writes, some of which a crash keeps. Nothing here speaks of the program; no statement is proved here.
-/
import Derived.Test.YtmkejkmgpigmhaaDevSync
namespace Go.Proofs.Ytmkejkmgpigmhaa
set_option linter.unusedVariables false
set_option linter.unusedSimpArgs false

/-- Page n of an image. -/
def pg (size n : Nat) (img : List UInt8) : List UInt8 := (img.drop (n * size)).take size
theorem bWrite_count (size p c : Nat) (b img : List UInt8) (hl : img.length = c * size) (hb : b.length = size) : (bWrite size p b img).length = max c (p + 1) * size := by
  rw [bWrite_len _ _ _ _ hb, hl, show p * size + size = (p + 1) * size by rw [Nat.add_mul]; omega]
  by_cases h : c ≤ p + 1
  · rw [Nat.max_eq_right h, Nat.max_eq_right (Nat.mul_le_mul_right _ h)]
  · have h' : p + 1 ≤ c := by omega
    rw [Nat.max_eq_left h', Nat.max_eq_left (Nat.mul_le_mul_right size h')]
theorem pg_write (size p c n : Nat) (b img : List UInt8) (hl : img.length = c * size) (hb : b.length = size) (hn : n < max c (p + 1)) :
    pg size n (bWrite size p b img) = if n = p then b else if n < c then pg size n img else List.replicate size 0 := by
  obtain ⟨E, hE⟩ : ∃ E, E = img ++ List.replicate (p * size + size - img.length) (0 : UInt8) := ⟨_, rfl⟩
  have hEl : p * size + size ≤ E.length := by rw [hE, List.length_append, List.length_replicate]; omega
  have hT : (E.take (p * size)).length = p * size := by rw [List.length_take]; omega
  unfold bWrite pg
  rw [← hE]
  rcases Nat.lt_trichotomy n p with h | h | h
  · have h1 : n * size + size ≤ p * size := by rw [← Nat.succ_mul]; exact Nat.mul_le_mul_right _ h
    rw [if_neg (by omega), List.append_assoc, List.drop_append_of_le_length (by rw [hT]; omega), List.take_append_of_le_length (by rw [List.length_drop, hT]; omega), List.drop_take, List.take_take, Nat.min_eq_left (by omega)]
    by_cases hc : n < c
    · have h2 : n * size + size ≤ c * size := by rw [← Nat.succ_mul]; exact Nat.mul_le_mul_right _ hc
      rw [if_pos hc, hE, List.drop_append_of_le_length (by rw [hl]; omega), List.take_append_of_le_length (by rw [List.length_drop, hl]; omega)]
    · have h2 : c * size ≤ n * size := Nat.mul_le_mul_right _ (by omega)
      rw [if_neg hc, hE, List.drop_append, List.drop_of_length_le (by rw [hl]; exact h2), List.nil_append, List.drop_replicate, List.take_replicate]
      congr 1
      omega
  · subst h
    rw [if_pos rfl, List.append_assoc, List.drop_append, hT, Nat.sub_self, List.drop_zero, List.drop_of_length_le (by rw [hT]; exact Nat.le_refl _), List.nil_append, List.take_append_of_le_length (by omega), List.take_of_length_le (by omega)]
  · have hc : n < c := by omega
    have h1 : p * size + size ≤ n * size := by rw [← Nat.succ_mul]; exact Nat.mul_le_mul_right _ h
    rw [if_neg (by omega), if_pos hc, List.drop_append, List.drop_of_length_le (by rw [List.length_append, hT, hb]; exact h1), List.nil_append, List.length_append, hT, hb, List.drop_drop]
    congr 2
    omega

/-- What page n shows behind the first j writes, of which those are kept whose numbers are in keep. -/
def sgn (q : Nat → Nat) (keep : List Int) (P : Nat) : Nat → Nat → Nat
  | 0, n => if n < P then 46 else 0
  | j + 1, n => if keep.contains (j : Int) = true ∧ q j = n then 97 + j else sgn q keep P j n
theorem sgn_lt (q : Nat → Nat) (keep : List Int) (P : Nat) : ∀ j n, j ≤ 20 → sgn q keep P j n < 256
  | 0, n, _ => by simp only [sgn]; split <;> omega
  | j + 1, n, h => by
    have := sgn_lt q keep P j n (by omega)
    simp only [sgn]
    split <;> omega
theorem whole_img (q : Nat → Nat) (keep : List Int) (P : Nat) (pend : List POp) (d : List UInt8) (hd : d.length = P * 128) (hp : ∀ n, n < P → pg 128 n d = List.replicate 128 46)
    (hops : ∀ j, j < pend.length → ∃ b : ByteArray, pend[j]? = some (.wr (q j) b) ∧ b.data.toList = List.replicate 128 (UInt8.ofNat (97 + j))) :
    ∀ j, j ≤ pend.length → ∃ c, (keepUp 128 keep pend d j).length = c * 128 ∧ (∀ n, n < c → pg 128 n (keepUp 128 keep pend d j) = List.replicate 128 (UInt8.ofNat (sgn q keep P j n))) ∧ (∀ n, c ≤ n → sgn q keep P j n = 0)
  | 0, _ => ⟨P, hd, fun n hn => by rw [show keepUp 128 keep pend d 0 = d from rfl, hp n hn]; simp [sgn, hn], fun n hn => by simp only [sgn]; rw [if_neg (by omega)]⟩
  | j + 1, hj => by
    obtain ⟨c, h1, h2, h3⟩ := whole_img q keep P pend d hd hp hops j (by omega)
    obtain ⟨b, hb, hbl⟩ := hops j (by omega)
    by_cases hk : keep.contains (j : Int) = true
    · rw [keepUp_yes hb hk]
      have hbs : b.data.toList.length = 128 := by rw [hbl, List.length_replicate]
      refine ⟨max c (q j + 1), bWrite_count 128 (q j) c _ _ h1 hbs, fun n hn => ?_, fun n hn => ?_⟩
      · show pg 128 n (bWrite 128 (q j) b.data.toList _) = _
        rw [pg_write 128 (q j) c n _ _ h1 hbs hn]
        simp only [sgn, hk, true_and]
        by_cases hnq : n = q j
        · rw [if_pos hnq, if_pos hnq.symm, hbl]
        · rw [if_neg hnq, if_neg (show ¬ q j = n from fun e => hnq e.symm)]
          by_cases hnc : n < c
          · rw [if_pos hnc, h2 n hnc]
          · rw [if_neg hnc, h3 n (by omega)]; rfl
      · simp only [sgn, hk, true_and]
        rw [if_neg (by omega), h3 n (by omega)]
    · have hk2 : keep.contains (j : Int) = false := by simpa using hk
      rw [keepUp_no hk2]
      refine ⟨c, h1, fun n hn => ?_, fun n hn => ?_⟩
      · simp only [sgn, hk2]
        rw [if_neg (by simp), h2 n hn]
      · simp only [sgn, hk2]
        rw [if_neg (by simp), h3 n hn]
end Go.Proofs.Ytmkejkmgpigmhaa
