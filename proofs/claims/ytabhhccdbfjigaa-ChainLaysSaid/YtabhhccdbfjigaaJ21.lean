/-
  Texts that the main proof rests on, put together: RdTot, Ref10Of, Ref11V, TwoRows, Ref11N, Lay, OvMath, OvMath3. No statement is proved here.
-/
import Derived.Test.YtabhhccdbfjigaaJ16
import Derived.Test.YtabhhccdbfjigaaJ2
import Derived.Test.YtabhhccdbfjigaaJ14
import Derived.Test.YtabhhccdbfjigaaJ20
import Derived.Test.YtabhhccdbfjigaaJ7
import Derived.Deep.CutRange
import Derived.Test.YtabhhccdbfjigaaJ17
import Derived.Test.YtabhhccdbfjigaaJ19
import Derived.Test.YtabhhccdbfjigaaJ1
import Derived.Test.YtabhhccdbfjigaaJ12
import Derived.Test.YtabhhccdbfjigaaJ5
namespace Go.Proofs.Ytabhhccdbfjigaa
open Go.RowKit
open Go.Lib
set_option linter.unusedVariables false
set_option linter.unusedSimpArgs false

/-- A number is taken off a reader, or it is too short, and nothing is. -/
def tookN (k : Nat) (t : ByteArray) (v : Nat) (x : Int) (t' : ByteArray) : Prop := (k ≤ t.size ∧ x = 0 ∧ v = leNat (t.data.toList.take k) ∧ t' = t.extract k t.size) ∨ (t.size < k ∧ x = 7 ∧ t' = t)
theorem cnum_tot {w : World} {g : Nat} {t : ByteArray} (h : IsRd w g t) (k : Nat) (h1 : 1 ≤ k) (h2 : k ≤ 8) :
    Calls Try.prog 97 #[.pointer (some ⟨g, 0, none⟩), .int .i64 k] w fun e w' => ∃ (v : Nat) (x : Int) (t' : ByteArray), e = .returned (.tuple #[.int .u64 v, .int .i64 x]) ∧ IsRd w' g t' ∧ w.grownBy w' (some g) ∧ v < 2 ^ (8 * k) ∧ tookN k t v x t' := by
  by_cases hk : k ≤ t.size
  · refine (number_ok' h k h1 h2 hk).mono ?_
    rintro e w' ⟨rfl, hr, hg⟩
    refine ⟨_, _, _, rfl, hr, hg, ?_, .inl ⟨hk, rfl, rfl, rfl⟩⟩
    have h3 := leNat_lt (t.data.toList.take k)
    have h4 : (t.data.toList.take k).length ≤ k := by rw [List.length_take]; omega
    exact Nat.lt_of_lt_of_le h3 (Nat.pow_le_pow_right (by omega) (by omega))
  · refine (number_more h k (by omega) (by omega) (by omega)).mono ?_
    rintro e w' ⟨rfl, rfl⟩
    exact ⟨0, 7, t, rfl, h, World.grownBy.refl _ _, Nat.two_pow_pos _, .inr ⟨by omega, rfl, rfl⟩⟩
def tookB (k : Nat) (t v : ByteArray) (x : Int) (t' : ByteArray) : Prop := (k ≤ t.size ∧ x = 0 ∧ v = t.extract 0 k ∧ t' = t.extract k t.size) ∨ (t.size < k ∧ x = 7 ∧ t' = t)
theorem cbytes_tot {w : World} {g : Nat} {t : ByteArray} (h : IsRd w g t) (k : Nat) :
    Calls Try.prog 116 #[.pointer (some ⟨g, 0, none⟩), .int .i64 k] w fun e w' => ∃ (v : ByteArray) (x : Int) (t' : ByteArray), e = .returned (.tuple #[.string v, .int .i64 x]) ∧ IsRd w' g t' ∧ w.grownBy w' (some g) ∧ tookB k t v x t' := by
  by_cases hk : k ≤ t.size
  · refine (bytes_ok' h k hk).mono ?_
    rintro e w' ⟨rfl, hr, hg⟩
    exact ⟨_, _, _, rfl, hr, hg, .inl ⟨hk, rfl, rfl, rfl⟩⟩
  · refine (bytes_more h k (by omega)).mono ?_
    rintro e w' ⟨rfl, rfl⟩
    exact ⟨_, _, t, rfl, h, World.grownBy.refl _ _, .inr ⟨by omega, rfl, rfl⟩⟩
theorem ext_take (t : ByteArray) (k : Nat) : (t.extract 0 k).data.toList = t.data.toList.take k := by simp
theorem ext_drop (t : ByteArray) (k : Nat) : (t.extract k t.size).data.toList = t.data.toList.drop k := by
  have h : t.data.size = t.data.toList.length := by simp
  rw [ByteArray.data_extract, Array.toList_extract, List.extract_eq_take_drop, List.take_of_length_le]
  rw [List.length_drop]
  show _ ≤ t.data.size - k
  omega
theorem leNat_one (n : UInt8) : leNat [n] = n.toNat := by simp [leNat]
end Go.Proofs.Ytabhhccdbfjigaa
namespace Go.Proofs.Ytabhhccdbfjigaa
open Go.RowKit
open Go.Lib hiding intOf
set_option linter.unusedVariables false
set_option linter.unusedSimpArgs false
attribute [local go_sem ↓] Go.wp_at_zero Go.wp_at_succ

theorem infoU32 : (Try.prog.info? 29).map (fun i => (i.zero, i.size, i.bytes)) = some (some (.int .u32 0), 1, 4) := by kernel_rfl
theorem page10_neq_no (a0 a1 a2 a3 a4 : Int) (a5 : ByteArray) (w : World) : (binOp .neq 40 (.agg #[.int .i64 a0, .int .i64 a1, .int .u32 a2, .int .u32 a3, .int .u64 a4, .string a5]) (.agg #[.int .i64 a0, .int .i64 a1, .int .u32 a2, .int .u32 a3, .int .u64 a4, .string a5])).run Try.prog w = .ok (.bool false) w := by
  simp [go_sem]
theorem page10_neq_yes (a0 a1 a2 a3 a4 : Int) (a5 : ByteArray) (b0 b1 b2 b3 b4 : Int) (b5 : ByteArray) (w : World) (h : ¬ (a0 = b0 ∧ a1 = b1 ∧ a2 = b2 ∧ a3 = b3 ∧ a4 = b4 ∧ a5 = b5)) : (binOp .neq 40 (.agg #[.int .i64 a0, .int .i64 a1, .int .u32 a2, .int .u32 a3, .int .u64 a4, .string a5]) (.agg #[.int .i64 b0, .int .i64 b1, .int .u32 b2, .int .u32 b3, .int .u64 b4, .string b5])).run Try.prog w = .ok (.bool true) w := by
  have h1 : (((((a0 == b0 && a1 == b1) && a2 == b2) && a3 == b3) && a4 == b4) && a5.toList == b5.toList) = false := by
    rw [Bool.eq_false_iff]
    intro ht
    simp only [Bool.and_eq_true, beq_iff_eq] at ht
    obtain ⟨⟨⟨⟨⟨h0, h1⟩, h2⟩, h3⟩, h4⟩, h5⟩ := ht
    rw [ByteArray.toList_eq, ByteArray.toList_eq] at h5
    exact h ⟨h0, h1, h2, h3, h4, bytes_ext h5⟩
  simp [go_sem] at h1 ⊢
  exact h1
/-- One number read, told by plain data. -/
theorem step10_is {s t : ByteArray} {v : Nat} {x : Int} (h : tookN 4 s v x t) :
    match stepU s.data.toList with
    | none => x ≠ 0
    | some (b, r') => x = 0 ∧ b = v ∧ t.data.toList = r' := by
  have hl : s.data.toList.length = s.size := size_list s
  unfold stepU
  rcases h with ⟨h1, rfl, rfl, rfl⟩ | ⟨h1, rfl, rfl⟩
  · rw [if_neg (by omega)]
    exact ⟨rfl, rfl, ext_drop s 4⟩
  · rw [if_pos (by omega)]
    simp
/-- What Of returns of what a page reads as. -/
def OfPost10 (o : Option (List Nat)) (lk : Nat) (w : World) (e : Ending) (w' : World) : Prop :=
  match o with
  | none => e = .returned (.tuple #[.slice none 0 0, .int .u32 0, .int .i64 4]) ∧ Below w.heap.size w w'
  | some l => ∃ A n c, e = .returned (.tuple #[.slice A n c, .int .u32 lk, .int .i64 0]) ∧ Reads w' w'.heap.size 1 A n (ucells l) ∧ n ≤ c ∧ c ≤ maxLen ∧ Below w.heap.size w w'
/-- What Of returns of what a page reads as: a slice of the call's own. -/
def OwnPost10 (o : Option (List Nat)) (lk : Nat) (w : World) (e : Ending) (w' : World) : Prop :=
  match o with
  | none => e = .returned (.tuple #[.slice none 0 0, .int .u32 0, .int .i64 4]) ∧ Below w.heap.size w w'
  | some l => ∃ A n c, e = .returned (.tuple #[.slice A n c, .int .u32 lk, .int .i64 0]) ∧ w'.ownsRow w.heap.size 29 1 (.slice A n c) n (ucells l) ∧ Below w.heap.size w w'
theorem OwnPost10.any {o : Option (List Nat)} {lk : Nat} {w : World} {e : Ending} {w' : World} (h : OwnPost10 o lk w e w') : OfPost10 o lk w e w' := by
  revert h
  cases o with
  | none => exact fun h => h
  | some l =>
    rintro ⟨A, n, c, rfl, ho, hb⟩
    obtain ⟨A', c', he, h1, h2, _⟩ := own_form ho
    injection he with e1 e2 e3
    subst e1
    subst e3
    exact ⟨A, n, c, rfl, Reads.of_own ho, h1, h2, hb⟩
end Go.Proofs.Ytabhhccdbfjigaa
namespace Go.Proofs.Ytabhhccdbfjigaa
open Go.RowKit
open Go.Lib hiding intOf
set_option linter.unusedVariables false
set_option linter.unusedSimpArgs false
attribute [local go_sem ↓] Go.wp_at_zero Go.wp_at_succ

theorem along_mem {size : Int} {s : ByteArray} {kd : Int} {head : Nat} : ∀ k, ∀ p ∈ (along size s kd head k).1, readAt size s p.pg = some p ∧ p.kd = kd
  | 0, p, h => by simp [along] at h
  | k + 1, p, h => by
    have ih := along_mem (size := size) (s := s) (kd := kd) (head := head) k
    simp only [along] at h
    split at h
    · rename_i q hq
      rcases List.mem_append.1 h with h | h
      · exact ih p h
      · simp only [List.mem_singleton] at h
        subst h
        obtain ⟨_, _, h3, h4⟩ := goes_some hq
        have h5 := (readAt_some h3).2.2.1
        rw [h5]
        exact ⟨h3, h4⟩
    · exact ih p h
theorem chain_mem {size : Int} {s : ByteArray} {kd : Int} {head : Nat} {p : Pg} (h : p ∈ chainL size s kd head) : readAt size s p.pg = some p ∧ p.kd = kd := along_mem _ p h
theorem readAt_body {size : Int} {s : ByteArray} {n : Nat} {p : Pg} (h : readAt size s n = some p) : p.bd.size ≤ 4072 := by
  obtain ⟨h1, _, _, h4⟩ := readAt_some h
  obtain ⟨z, rfl, h5, h6, _⟩ := good_nat h1
  simp only [mayPg, Bool.and_eq_true, decide_eq_true_eq] at h4
  omega
theorem over_size {p : Pg} {v : ByteArray} (h : p.over = some v) : v.size ≤ p.bd.size := by
  obtain ⟨h1, _, h3, h4⟩ := readO_some h
  obtain ⟨_, _, h5, _⟩ := mayP9_parts h1
  omega
theorem link_cells {w : World} {B n k : Nat} {ad : Addr} {F : List Lk} {y : Lk} (h : Reads w B 7 (some ad) n (lkc F)) (hk : k < n) (hy : F[k]? = some y) : LkAt w (ad.add (k * 7)) y := by
  obtain ⟨ad', y', ha, _, hx, hc⟩ := link_at h hk
  injection ha with ha
  subst ha
  rw [hy] at hx
  injection hx with hx
  subst hx
  exact hc
theorem valV_front {L : List Pg} {k : Nat} (h : valV (L.take k) = none) : valV L = none := by
  have := valV_none h (L.drop k)
  rwa [List.take_append_drop] at this
def rdStr (o : Option (ByteArray × List Nat)) : ByteArray := (o.map (·.1)).getD ⟨#[]⟩
def rdPs (o : Option (ByteArray × List Nat)) : List Nat := (o.map (·.2)).getD []
def rdErr (size : Int) (o : Option (ByteArray × List Nat)) : Int := if goodSize size then (if o.isSome then 0 else 4) else 2
theorem readV_bad {size : Int} {s : ByteArray} {head : Nat} {len : Int} (h : goodSize size = false) : readV size s head len = none := by
  have ha : ∀ k, along size s 5 head k = ([], head) := fun k => by
    induction k with
    | zero => rfl
    | succ k ih => simp only [along, ih, goes_bad (readAt_bad h)]
  have hc : chainL size s 5 head = [] := by rw [chainL, ha]
  unfold readV
  rw [hc]
  split
  · simp only [valV, List.foldl_nil]
    rw [if_neg]
    rintro ⟨h1, h2⟩
    have : (⟨#[]⟩ : ByteArray).size = 0 := rfl
    omega
  · rfl
end Go.Proofs.Ytabhhccdbfjigaa
namespace Go.Proofs.Ytabhhccdbfjigaa
open Go.RowKit
open Go.Lib
set_option linter.unusedVariables false
set_option linter.unusedSimpArgs false

/-- Two slices lie in different blocks. -/
def Apart (v b : Value) : Prop := ∀ g, v.ownBlock = some g → b.ownBlock ≠ some g
theorem Apart.symm {v b : Value} (h : Apart v b) : Apart b v := fun g h1 h2 => h g h2 h1
theorem Apart.nil (b : Value) : Apart (.slice none 0 0) b := fun g h => by simp [Value.ownBlock] at h
/-- A row whose blocks are all older than another's. -/
theorem Apart.older {w w' : World} {base base' : Nat} {e e' : TypeId} {size size' : Nat} {v b : Value} {n m : Nat} {xs ys : List Value} (hv : w.ownsRow base e size v n xs) (hb : w'.ownsRow base' e' size' b m ys) (h : w.heap.size ≤ base') : Apart v b := fun g h1 h2 => by
  have := (hv.lt g h1).2
  have := own_base hb g h2
  omega
theorem Apart.grow {w : World} {base : Nat} {e : TypeId} {size : Nat} {v v' b : Value} {m : Nat} {ys : List Value} (h : Apart v b) (hb : w.ownsRow base e size b m ys) (hat : v'.ownBlock = v.ownBlock ∨ v'.ownBlock = some w.heap.size) : Apart v' b := fun g h1 h2 => by
  rcases hat with hat | hat
  · exact h g (hat ▸ h1) h2
  · rw [h1] at hat
    injection hat with hat
    have := (hb.lt g h2).2
    omega
theorem Apart.keeps {w w' : World} {base : Nat} {e : TypeId} {size : Nat} {v b : Value} {m : Nat} {ys : List Value} (h : Apart v b) (hb : w.ownsRow base e size b m ys) (hg : w.grownBy w' v.ownBlock) : w'.ownsRow base e size b m ys := by
  refine hb.kept hg ?_
  rcases hk : b.ownBlock with _ | g
  · exact .inl rfl
  · refine .inr fun he => ?_
    exact h g he.symm hk
end Go.Proofs.Ytabhhccdbfjigaa
namespace Go.Proofs.Ytabhhccdbfjigaa
open Go.RowKit
open Go.Lib hiding intOf
set_option linter.unusedVariables false
set_option linter.unusedSimpArgs false
attribute [local go_sem ↓] Go.wp_at_zero Go.wp_at_succ

theorem free_len {p : Pg} {l : List Nat} (h : p.free = some l) : l.length ≤ 1018 := by
  obtain ⟨h1, _⟩ := readU_some h
  simp only [mayP10, Bool.and_eq_true, decide_eq_true_eq] at h1
  exact Nat.le_trans h1.2.2.2.1 (mostN_le _)
theorem numV_front {L : List Pg} {k : Nat} (h : numV (L.take k) = none) : numV L = none := by
  have := numV_none h (L.drop k)
  rwa [List.take_append_drop] at this
def ldNs (o : Option (List Nat × List Nat)) : List Nat := (o.map (·.1)).getD []
def ldPs (o : Option (List Nat × List Nat)) : List Nat := (o.map (·.2)).getD []
def ldErr (size : Int) (o : Option (List Nat × List Nat)) : Int := if goodSize size then (if o.isSome then 0 else 4) else 2
/-- What List returns. -/
def ListPost (size : Int) (o : Option (List Nat × List Nat)) (w : World) (e : Ending) (w' : World) : Prop :=
  if goodSize size then ∃ A n c A2 n2 c2, e = .returned (.tuple #[.slice A n c, .slice A2 n2 c2, .int .i64 (ldErr size o)]) ∧ Reads w' w'.heap.size 1 A n (ucells (ldNs o)) ∧ Reads w' w'.heap.size 1 A2 n2 (ucells (ldPs o)) ∧ Below w.heap.size w w'
  else e = .returned (.tuple #[.slice none 0 0, .slice none 0 0, .int .i64 2]) ∧ Below w.heap.size w w'
theorem ListPost.no {size : Int} {w w' : World} (hg : goodSize size = true) (h : Below w.heap.size w w') : ListPost size none w (.returned (.tuple #[.slice none 0 0, .slice none 0 0, .int .i64 4])) w' := by
  unfold ListPost
  rw [if_pos hg]
  exact ⟨none, 0, 0, none, 0, 0, by rw [ldErr, if_pos hg] <;> rfl, Reads.none_, Reads.none_, h⟩
theorem ListPost.yes {size : Int} {w w' : World} {l m : List Nat} {A A2 : Option Addr} {n c n2 c2 : Nat} (hg : goodSize size = true) (h1 : Reads w' w'.heap.size 1 A n (ucells l)) (h2 : Reads w' w'.heap.size 1 A2 n2 (ucells m)) (h : Below w.heap.size w w') : ListPost size (some (l, m)) w (.returned (.tuple #[.slice A n c, .slice A2 n2 c2, .int .i64 0])) w' := by
  unfold ListPost
  rw [if_pos hg]
  exact ⟨A, n, c, A2, n2, c2, by rw [ldErr, if_pos hg] <;> rfl, h1, h2, h⟩
end Go.Proofs.Ytabhhccdbfjigaa
namespace Go.Proofs.Ytabhhccdbfjigaa
open Go.RowKit
open Go.Lib hiding intOf
set_option linter.unusedVariables false
set_option linter.unusedSimpArgs false

/-- Page n of an image. -/
def pieceL (z n : Nat) (img : List UInt8) : List UInt8 := (img.drop (n * z)).take z
theorem pieceL_write (size p c n : Nat) (b img : List UInt8) (hl : img.length = c * size) (hb : b.length = size) (hn : n < max c (p + 1)) :
    pieceL size n (bWrite size p b img) = if n = p then b else if n < c then pieceL size n img else List.replicate size 0 := by
  obtain ⟨E, hE⟩ : ∃ E, E = img ++ List.replicate (p * size + size - img.length) (0 : UInt8) := ⟨_, rfl⟩
  have hEl : p * size + size ≤ E.length := by rw [hE, List.length_append, List.length_replicate]; omega
  have hT : (E.take (p * size)).length = p * size := by rw [List.length_take]; omega
  unfold bWrite pieceL
  rw [← hE]
  rcases Nat.lt_trichotomy n p with h | h | h
  · have h1 : n * size + size ≤ p * size := by rw [← Nat.succ_mul]; exact Nat.mul_le_mul_right _ h
    rw [if_neg (by omega), List.append_assoc, List.drop_append_of_le_length (by rw [hT]; omega), List.take_append_of_le_length (by rw [List.length_drop, hT]; omega), List.drop_take, List.take_take, Nat.min_eq_left (by omega)]
    by_cases hc : n < c
    · have h2 : n * size + size ≤ c * size := by rw [← Nat.succ_mul]; exact Nat.mul_le_mul_right _ hc
      rw [if_pos hc, hE, List.drop_append_of_le_length (by rw [hl]; omega), List.take_append_of_le_length (by rw [List.length_drop, hl]; omega)]
    · have h2 : c * size ≤ n * size := Nat.mul_le_mul_right _ (by omega)
      rw [if_neg hc, hE, List.drop_append, List.drop_of_length_le (by rw [hl]; exact h2), List.nil_append, List.drop_replicate, List.take_replicate]
      congr 1
      omega
  · subst h
    rw [if_pos rfl, List.append_assoc, List.drop_append, hT, Nat.sub_self, List.drop_zero, List.drop_of_length_le (by rw [hT]; exact Nat.le_refl _), List.nil_append, List.take_append_of_le_length (by omega), List.take_of_length_le (by omega)]
  · have hc : n < c := by omega
    have h1 : p * size + size ≤ n * size := by rw [← Nat.succ_mul]; exact Nat.mul_le_mul_right _ h
    rw [if_neg (by omega), if_pos hc, List.drop_append, List.drop_of_length_le (by rw [List.length_append, hT, hb]; exact h1), List.nil_append, List.length_append, hT, hb, List.drop_drop]
    congr 2
    omega
theorem bWrite_pages (size p c : Nat) (b img : List UInt8) (hl : img.length = c * size) (hb : b.length = size) : (bWrite size p b img).length = max c (p + 1) * size := by
  rw [bWrite_len _ _ _ _ hb, hl, show p * size + size = (p + 1) * size by rw [Nat.add_mul]; omega]
  by_cases h : c ≤ p + 1
  · rw [Nat.max_eq_right h, Nat.max_eq_right (Nat.mul_le_mul_right _ h)]
  · have h' : p + 1 ≤ c := by omega
    rw [Nat.max_eq_left h', Nat.max_eq_left (Nat.mul_le_mul_right size h')]
/-- A page's bytes. -/
def Pg.block (p : Pg) : ByteArray := pageB p.kd.toNat p.ct.toNat p.pg p.lk p.tx p.bd
/-- An image behind a write. -/
def writeB (z n : Nat) (b img : ByteArray) : ByteArray := ⟨(bWrite z n b.data.toList img.data.toList).toArray⟩
theorem writeB_list (z n : Nat) (b img : ByteArray) : (writeB z n b img).data.toList = bWrite z n b.data.toList img.data.toList := by simp [writeB]
theorem blkOf_list (z n : Nat) (s : ByteArray) : (blkOf z s n).data.toList = pieceL z n s.data.toList := by
  unfold blkOf pieceL
  rw [ByteArray.data_extract, Array.toList_extract, List.extract_eq_take_drop]
  congr 1
  omega
theorem block_right {z : Nat} {p : Pg} (h : mayPg z p.kd p.ct p.pg p.lk p.tx p.bd = true) : p.block.size = z ∧ blockOk z p.pg p.block = true ∧
    p = ⟨numAt p.block 4 1, numAt p.block 6 2, numAt p.block 8 4, numAt p.block 12 4, numAt p.block 16 8, p.block.extract 24 p.block.size⟩ := by
  have hm := h
  simp only [mayPg, Bool.and_eq_true, decide_eq_true_eq] at hm
  obtain ⟨kd, ct, pg, lk, tx, bd⟩ := p
  simp only at hm h
  obtain ⟨k, rfl⟩ := Int.eq_ofNat_of_zero_le (by omega : 0 ≤ kd)
  obtain ⟨c, rfl⟩ := Int.eq_ofNat_of_zero_le (by omega : 0 ≤ ct)
  have hgz : goodSize z = true := hm.1
  have hgp := good_pos hgz
  have hs : (pageB k c pg lk tx bd).size = z := by rw [pageB_size]; omega
  obtain ⟨a1, a2, a3, a4, a5, a6, a7⟩ := pageB_at k c pg lk tx bd (by omega) (by omega) (by omega) (by omega) (by omega)
  have hb : Pg.block ⟨(k : Int), (c : Int), pg, lk, tx, bd⟩ = pageB k c pg lk tx bd := rfl
  rw [hb]
  have b1 : numAt (pageB k c pg lk tx bd) 4 1 = k := a1
  have b2 : numAt (pageB k c pg lk tx bd) 5 1 = 1 := a2
  have b3 : numAt (pageB k c pg lk tx bd) 6 2 = c := a3
  have b4 : numAt (pageB k c pg lk tx bd) 8 4 = pg := a4
  have b5 : numAt (pageB k c pg lk tx bd) 12 4 = lk := a5
  have b6 : numAt (pageB k c pg lk tx bd) 16 8 = tx := a6
  refine ⟨hs, ?_, by rw [b1, b3, b4, b5, b6, a7]⟩
  unfold blockOk
  rw [b1, b2, b3, b4, b5, b6, a7, hs, pageB_sum]
  simp
  exact h
theorem zeros_wrong (z n : Nat) (h : 24 ≤ z) : blockOk z n ⟨(List.replicate z (0 : UInt8)).toArray⟩ = false := by
  have h1 : numAt ⟨(List.replicate z (0 : UInt8)).toArray⟩ 5 1 = 0 := by
    unfold numAt
    simp only [List.drop_replicate, List.take_replicate]
    rw [show min 1 (z - 5) = 1 by omega]
    rfl
  unfold blockOk
  rw [h1]
  simp
/-- What is read of an image behind a page that is laid. -/
theorem readAt_write {z c : Nat} {img : ByteArray} {p : Pg} (hp : mayPg z p.kd p.ct p.pg p.lk p.tx p.bd = true) (hl : img.size = c * z) (n : Nat) :
    readAt z (writeB z p.pg p.block img) n = if n = p.pg then some p else readAt z img n := by
  have hg : goodSize z = true := by simp only [mayPg, Bool.and_eq_true] at hp; exact hp.1
  have hgp := good_pos hg
  obtain ⟨z', hzz, hz1, _⟩ := good_nat hg
  have hz0 : 0 < z := by omega
  obtain ⟨hbs, hok, hpe⟩ := block_right hp
  have hil : img.data.toList.length = c * z := by rw [size_list, hl]
  have hbl : p.block.data.toList.length = z := by rw [size_list, hbs]
  have hws : (writeB z p.pg p.block img).size = max c (p.pg + 1) * z := by rw [← size_list, writeB_list]; exact bWrite_pages z p.pg c _ _ hil hbl
  have hd1 : (writeB z p.pg p.block img).size / z = max c (p.pg + 1) := by rw [hws, Nat.mul_div_cancel _ hz0]
  have hd2 : img.size / z = c := by rw [hl, Nat.mul_div_cancel _ hz0]
  have hzn : ((z : Nat) : Int).toNat = z := by omega
  have hblk : n < max c (p.pg + 1) → blkOf z (writeB z p.pg p.block img) n = if n = p.pg then p.block else if n < c then blkOf z img n else ⟨(List.replicate z (0 : UInt8)).toArray⟩ := fun hn => by
    apply bytes_ext
    rw [blkOf_list, writeB_list, pieceL_write z p.pg c n _ _ hil hbl hn]
    split
    · rfl
    · split
      · rw [blkOf_list]
      · simp
  unfold readAt
  rw [hzn, hd1, hd2, hg]
  by_cases hn : n < max c (p.pg + 1)
  · rw [hblk hn, decide_eq_true hn]
    by_cases h1 : n = p.pg
    · rw [if_pos h1, if_pos h1, h1, hok]
      simp only [Bool.and_self, if_true]
      rw [← hpe]
    · rw [if_neg h1, if_neg h1]
      by_cases h2 : n < c
      · rw [if_pos h2, decide_eq_true h2]
      · rw [if_neg h2, decide_eq_false h2, zeros_wrong z n (by omega)]
        simp
  · rw [decide_eq_false hn, decide_eq_false (by omega : ¬ n < c), if_neg (by omega : ¬ n = p.pg)]
    simp
/-- An image behind pages that are laid, one after the other. -/
def layL (size : Int) (img : ByteArray) (L : List Pg) : Option ByteArray := L.foldl (fun a p => match a with | some i => if mayPg size p.kd p.ct p.pg p.lk p.tx p.bd then some (writeB size.toNat p.pg p.block i) else none | none => none) (some img)
theorem layL_snoc (size : Int) (img : ByteArray) (L : List Pg) (p : Pg) : layL size img (L ++ [p]) = match layL size img L with | some i => if mayPg size p.kd p.ct p.pg p.lk p.tx p.bd then some (writeB size.toNat p.pg p.block i) else none | none => none := by unfold layL; rw [List.foldl_append]; rfl
theorem layL_none {size : Int} {img : ByteArray} {L : List Pg} (h : layL size img L = none) : ∀ M, layL size img (L ++ M) = none := by
  intro M
  induction M generalizing L with
  | nil => simpa using h
  | cons p t ih =>
    rw [show L ++ p :: t = (L ++ [p]) ++ t by simp]
    exact ih (by rw [layL_snoc, h])
theorem layL_front {size : Int} {img : ByteArray} {L : List Pg} {k : Nat} (h : layL size img (L.take k) = none) : layL size img L = none := by
  have := layL_none h (L.drop k)
  rwa [List.take_append_drop] at this
def layStr (size : Int) (img : ByteArray) (L : List Pg) : ByteArray := (layL size img L).getD ⟨#[]⟩
def layErr (size : Int) (img : ByteArray) (L : List Pg) : Int := if (layL size img L).isSome then 0 else 2
theorem lay_no {size : Int} {img : ByteArray} {L : List Pg} (h : layL size img L = none) : layStr size img L = ⟨#[]⟩ ∧ layErr size img L = 2 := by unfold layStr layErr; rw [h]; exact ⟨rfl, rfl⟩
theorem lay_yes {size : Int} {img im : ByteArray} {L : List Pg} (h : layL size img L = some im) : layStr size img L = im ∧ layErr size img L = 0 := by unfold layStr layErr; rw [h]; exact ⟨rfl, rfl⟩
theorem writeB_size (z n : Nat) (b img : ByteArray) (hb : b.size = z) : (writeB z n b img).size = max img.size (n * z + z) := by
  rw [← size_list, writeB_list, bWrite_len _ _ _ _ (by rw [size_list]; exact hb), size_list]
end Go.Proofs.Ytabhhccdbfjigaa
namespace Go.Proofs.Ytabhhccdbfjigaa
open Go.RowKit
open Go.Lib hiding intOf
set_option linter.unusedVariables false
set_option linter.unusedSimpArgs false

theorem ext_list9 (t : ByteArray) (a b : Nat) : (t.extract a b).data.toList = (t.data.toList.drop a).take (b - a) := by
  rw [ByteArray.data_extract, Array.toList_extract, List.extract_eq_take_drop]
theorem ext_back9 (t : ByteArray) (a : Nat) : (t.extract a t.size).data.toList = t.data.toList.drop a := by
  rw [ext_list9, List.take_of_length_le]
  rw [List.length_drop, size_list]
  omega
theorem ext_size9 (t : ByteArray) (a b : Nat) (h : b ≤ t.size) : (t.extract a b).size = b - a := by rw [ByteArray.size_extract]; omega
theorem ceilD_mul {r j : Nat} (hr : 0 < r) : ceilD (j * r) r = j := by
  unfold ceilD
  rw [show j * r + r - 1 = (r - 1) + j * r by omega, Nat.add_mul_div_right _ _ hr, Nat.div_eq_of_lt (by omega)]
  omega
theorem ceilD_add {r j m : Nat} (hr : 0 < r) : ceilD (j * r + m) r = j + ceilD m r := by
  unfold ceilD
  rw [show j * r + m + r - 1 = (m + r - 1) + j * r by omega, Nat.add_mul_div_right _ _ hr]
  omega
theorem chunks_append {r j : Nat} (v : ByteArray) (hr : 0 < r) (hk : j * r ≤ v.size) : chunks r v = chunks r (v.extract 0 (j * r)) ++ chunks r (v.extract (j * r) v.size) := by
  have hsa : (v.extract 0 (j * r)).size = j * r := by rw [ext_size9 _ _ _ hk]; omega
  have hsb : (v.extract (j * r) v.size).size = v.size - j * r := ext_size9 _ _ _ (Nat.le_refl _)
  obtain ⟨m, hm⟩ : ∃ m, v.size = j * r + m := ⟨v.size - j * r, by omega⟩
  unfold chunks
  rw [hsa, hsb, ceilD_mul hr, show v.size - j * r = m by omega, show ceilD v.size r = j + ceilD m r by rw [hm]; exact ceilD_add hr, List.range_add, List.map_append]
  congr 1
  · apply List.map_congr_left
    intro i hi
    rw [List.mem_range] at hi
    have h1 : (i + 1) * r ≤ j * r := Nat.mul_le_mul_right _ hi
    have h2 : (i + 1) * r = i * r + r := by rw [Nat.add_mul, Nat.one_mul]
    apply bytes_ext
    unfold piece
    rw [ext_list9, ext_list9, ext_list9, hsa, List.drop_zero, List.drop_take, List.take_take]
    congr 1
    omega
  · rw [List.map_map]
    apply List.map_congr_left
    intro i hi
    have h2 : (i + 1) * r = i * r + r := by rw [Nat.add_mul, Nat.one_mul]
    have h3 : (j + i + 1) * r = j * r + i * r + r := by rw [Nat.add_mul, Nat.add_mul, Nat.one_mul]
    have h4 : (j + i) * r = j * r + i * r := by rw [Nat.add_mul]
    apply bytes_ext
    show (piece r v (j + i)).data.toList = (piece r (v.extract (j * r) v.size) i).data.toList
    unfold piece
    rw [ext_list9, ext_list9, hsb, ext_back9, List.drop_drop, h2, h3, h4]
    congr 1
    omega
/-- All pieces are full but the last one. -/
theorem chunks_size {r : Nat} {v : ByteArray} {i : Nat} {x : ByteArray} (hr : 0 < r) (hx : (chunks r v)[i]? = some x) : x.size = min r (v.size - i * r) ∧ i < ceilD v.size r := by
  unfold chunks at hx
  rw [List.getElem?_map] at hx
  obtain ⟨j, hj, rfl⟩ := Option.map_eq_some_iff.1 hx
  obtain ⟨h1, h2⟩ := List.getElem?_eq_some_iff.1 hj
  rw [List.length_range] at h1
  rw [List.getElem_range] at h2
  subst h2
  exact ⟨piece_size hr h1, h1⟩
end Go.Proofs.Ytabhhccdbfjigaa
namespace Go.Proofs.Ytabhhccdbfjigaa
open Go.RowKit
open Go.Lib hiding intOf
set_option linter.unusedVariables false
set_option linter.unusedSimpArgs false

/-- The first k parts one behind the other. -/
def frontP (r : Nat) (v : ByteArray) (k : Nat) : ByteArray := v.extract 0 (min (k * r) v.size)
theorem frontP_zero (r : Nat) (v : ByteArray) : frontP r v 0 = ⟨#[]⟩ := by
  apply bytes_ext
  unfold frontP
  rw [ext_list9]
  simp
theorem frontP_succ {r k : Nat} {v : ByteArray} (hr : 0 < r) (hk : k < ceilD v.size r) : frontP r v (k + 1) = frontP r v k ++ piece r v k := by
  have h := piece_lt hr hk
  apply bytes_ext
  unfold frontP piece
  rw [ByteArray.data_append, Array.toList_append, ext_list9, ext_list9, ext_list9, List.drop_zero, Nat.sub_zero, Nat.sub_zero, Nat.add_mul, Nat.one_mul, Nat.min_eq_left (by omega : k * r ≤ v.size)]
  rw [← List.take_add]
  congr 1
  omega
theorem frontP_end {r : Nat} {v : ByteArray} (hr : 0 < r) : frontP r v (ceilD v.size r) = v := by
  have h := piece_end hr (Nat.lt_irrefl (ceilD v.size r))
  apply bytes_ext
  unfold frontP
  rw [ext_list9, Nat.min_eq_right h, List.drop_zero, Nat.sub_zero]
  exact List.take_of_length_le (by rw [size_list]; exact Nat.le_refl _)
theorem chunks_at {r i : Nat} {v : ByteArray} (hi : i < ceilD v.size r) : (chunks r v)[i]? = some (piece r v i) := by
  unfold chunks
  rw [List.getElem?_map, List.getElem?_range hi]
  rfl
/-- A part that another one follows is full. -/
theorem piece_full {r i : Nat} {v : ByteArray} (hr : 0 < r) (hi : i + 1 < ceilD v.size r) : (piece r v i).size = r := by
  have h := piece_lt hr hi
  rw [piece_size hr (by omega)]
  rw [Nat.add_mul, Nat.one_mul] at h
  omega
/-- The number of the page that follows. -/
def nextP (c n i : Nat) : Nat := if i + 1 < c then n + i + 1 else 0
theorem part_may {z n i : Nat} {v : ByteArray} (hz : goodSize z = true) (hv : v.size ≤ 4200) (hn : 2 ≤ n) (hn9 : n ≤ 1001) (hi : i < ceilD v.size (z - 24)) : mayP9 z (n + i) (nextP (ceilD v.size (z - 24)) n i) 3 (piece (z - 24) v i) = true := by
  obtain ⟨z', hzz, h1, h2, _⟩ := good_nat hz
  obtain rfl : z = z' := by omega
  have hr : 0 < z - 24 := by omega
  have h3 := piece_lt hr hi
  have hs := piece_size hr hi
  have hi9 : i < 4200 := by
    have : i * 1 ≤ i * (z - 24) := Nat.mul_le_mul_left _ hr
    omega
  unfold mayP9
  simp only [Bool.and_eq_true, Bool.or_eq_true, decide_eq_true_eq]
  refine ⟨hz, by omega, by omega, ?_, ?_, by omega⟩
  · unfold numB
    simp
    omega
  · unfold nextP
    split
    · rename_i h5
      right
      have := piece_full hr h5
      refine ⟨?_, by omega⟩
      unfold numB
      simp
      omega
    · left
      rfl
end Go.Proofs.Ytabhhccdbfjigaa
