/-
  Contract of the kit's LightTexts; the bytes that FrameReads puts together.
-/
import Derived.Test.YtdfkkebjdjmeiaaFrameLaw
import Derived.Test.YtdfkkebjdjmeiaaFrameOpen
import Derived.Test.YtdfkkebjdjmeiaaBytes
namespace Go.Proofs.Ytdfkkebjdjmeiaa
open Go.RowKit
open Go.Lib
set_option linter.unusedVariables false
set_option linter.unusedSimpArgs false

theorem text_at {w : World} {B n j : Nat} {A : Option Addr} {l : List ByteArray} (h : Texts w B A n l) (hj : j < n) : ∃ (ad : Addr) (s : ByteArray), A = some ad ∧ ad.block < B ∧ l[j]? = some s ∧ w.cell? (ad.add j) = some (.string s) ∧ s.size ≤ maxLen := by
  obtain ⟨ad, u, hA, hb, hu, hc⟩ := h.1.at_ hj
  rw [List.getElem?_map] at hu
  obtain ⟨s, hs, rfl⟩ := Option.map_eq_some_iff.1 hu
  exact ⟨ad, s, hA, hb, hs, hc, h.2 s (List.mem_of_getElem? hs)⟩
theorem Texts.below {w w' : World} {B n : Nat} {A : Option Addr} {l : List ByteArray} (h : Texts w B A n l) (hb : Below B w w') : Texts w' B A n l := ⟨h.1.below hb, h.2⟩
theorem texts_len {w : World} {B n : Nat} {A : Option Addr} {l : List ByteArray} (h : Texts w B A n l) : l.length = n := by
  have := h.1.1
  rw [List.length_map] at this
  omega

/-- It returns a bool. -/
def SomeBool (e : Ending) : Prop := ∃ b : Bool, e = .returned (.bool b)
theorem light_any {w : World} {B n : Nat} {A : Option Addr} {l : List ByteArray} (c : Nat) (h : Texts w B A n l) (hn : n ≤ maxLen) :
    Calls Try.prog 17 #[.slice A n c, .int .i64 10, .int .i64 1040] w fun e w' => SomeBool e ∧ w = w' := by
  unfold maxLen at hn
  by_cases hm : 10 < n
  · have q : decide ((10 : Int) < (n : Int)) = true := by simp; omega
    go_enter Try.func17, Try.ntmps17
    go_wp2
    go_ret
    exact ⟨⟨_, rfl⟩, rfl⟩
  · have q : decide ((10 : Int) < (n : Int)) = false := by simp; omega
    go_enter Try.func17, Try.ntmps17
    go_wp2
    go_loop [7, 8] (fun t i => ∃ (k : Nat) (z : Int), k ≤ n ∧ i = .int .i64 k ∧ t = .int .i64 z) (fun _ i => n - (RowKit.intOf i).toNat)
    case atStart => exact ⟨0, 0, by omega, rfl, rfl⟩
    case round =>
      obtain ⟨k, z, hk, rfl, rfl⟩ := hrel
      by_cases hlt : k < n
      · obtain ⟨ad, s, rfl, _, _, hc, hs⟩ := text_at h hlt
        go_wp2
        · go_ret
          exact ⟨⟨_, rfl⟩, rfl⟩
        · go_round
          case rel => exact ⟨k + 1, _, by omega, by go_num, rfl⟩
          case measure => simp [RowKit.intOf]; omega
      · go_wp2
        go_ret
        exact ⟨⟨_, rfl⟩, rfl⟩

/-- The body of a text: its first bytes, and zero bytes. -/
def bodyOf (s : ByteArray) : ByteArray := ⟨((s.data.toList.take 104) ++ List.replicate (104 - min s.size 104) 0).toArray⟩
theorem bodyOf_list (s : ByteArray) : (bodyOf s).data.toList = (s.data.toList.take 104) ++ List.replicate (104 - min s.size 104) 0 := rfl
theorem bodyOf_size (s : ByteArray) : (bodyOf s).size = 104 := by
  rw [← size_list, bodyOf_list, List.length_append, List.length_take, List.length_replicate, size_list]
  omega
def nth (l : List ByteArray) (k : Nat) : ByteArray := l.getD k ⟨#[]⟩
/-- The bytes of page number k. -/
def pgAt (tx : Nat) (l : List ByteArray) (k : Nat) : ByteArray := pageB 4 k k 0 tx (bodyOf (nth l k))
theorem pgAt_size (tx : Nat) (l : List ByteArray) (k : Nat) : (pgAt tx l k).size = 128 := by rw [pgAt, pageB_size, bodyOf_size]
theorem may_at (tx : Nat) (l : List ByteArray) (k : Nat) (hk : k < 10) (ht : tx ≤ 4611686018427387904) : mayPg (128 : Nat) (4 : Nat) k k 0 tx (bodyOf (nth l k)) = true := by
  simp [mayPg, bodyOf_size, goodSize, ht]
  omega
/-- The first k pages, one after the other. -/
def imgOf (tx : Nat) (l : List ByteArray) : Nat → ByteArray
  | 0 => ⟨#[]⟩
  | k + 1 => imgOf tx l k ++ pgAt tx l k
theorem imgOf_size (tx : Nat) (l : List ByteArray) : ∀ k, (imgOf tx l k).size = 128 * k
  | 0 => rfl
  | k + 1 => by rw [imgOf, ByteArray.size_append, imgOf_size tx l k, pgAt_size]; omega
theorem imgOf_at (tx : Nat) (l : List ByteArray) : ∀ (n j : Nat), j < n → List.take 128 (List.drop (128 * j) (imgOf tx l n).data.toList) = (pgAt tx l j).data.toList
  | 0, j, h => by omega
  | n + 1, j, h => by
    have hs := imgOf_size tx l n
    rw [imgOf, ByteArray.data_append, Array.toList_append]
    by_cases hj : j = n
    · subst hj
      rw [List.drop_left' (by rw [size_list, hs]), List.take_of_length_le (by rw [size_list, pgAt_size]; exact Nat.le_refl _)]
    · rw [List.drop_append_of_le_length (by rw [size_list, hs]; omega), List.take_append_of_le_length (by rw [List.length_drop, size_list, hs]; omega)]
      exact imgOf_at tx l n j (by omega)
theorem img_page (tx : Nat) (l : List ByteArray) (n j : Nat) (rest : ByteArray) (h : j < n) : (imgOf tx l n ++ rest).extract (j * 128) (j * 128 + 128) = pgAt tx l j := by
  apply bytes_ext
  have hs := imgOf_size tx l n
  rw [Lib.extract_data, ByteArray.data_append, Array.toList_append, show j * 128 + 128 - j * 128 = 128 by omega, List.drop_append_of_le_length (by rw [size_list, hs]; omega), List.take_append_of_le_length (by rw [List.length_drop, size_list, hs]; omega), Nat.mul_comm j 128]
  exact imgOf_at tx l n j h
/-- The cells of the first k pages. -/
def pgCells (tx : Nat) (l : List ByteArray) (k : Nat) : List Value := [.int .i64 4, .int .i64 k, .int .u32 k, .int .u32 0, .int .u64 tx, .string (bodyOf (nth l k))]
def cellsOf (tx : Nat) (l : List ByteArray) : Nat → List Value
  | 0 => []
  | k + 1 => cellsOf tx l k ++ pgCells tx l k
theorem cellsOf_len (tx : Nat) (l : List ByteArray) : ∀ k, (cellsOf tx l k).length = k * 6
  | 0 => rfl
  | k + 1 => by rw [cellsOf, List.length_append, cellsOf_len tx l k]; simp [pgCells]; omega
theorem cellsOf_at (tx : Nat) (l : List ByteArray) : ∀ (n j i : Nat), j < n → i < 6 → (cellsOf tx l n)[j * 6 + i]? = (pgCells tx l j)[i]?
  | 0, j, i, h, _ => by omega
  | n + 1, j, i, h, hi => by
    have hs := cellsOf_len tx l n
    rw [cellsOf]
    by_cases hj : j = n
    · subst hj
      rw [List.getElem?_append_right (by omega), hs]
      congr 1
      omega
    · rw [List.getElem?_append_left (by omega)]
      exact cellsOf_at tx l n j i (by omega) hi
theorem cellsOf_one (tx : Nat) (l : List ByteArray) : ∀ n, ∀ u ∈ cellsOf tx l n, u.oneCell' = true
  | 0, u, hu => by simp [cellsOf] at hu
  | n + 1, u, hu => by
    rw [cellsOf, List.mem_append] at hu
    rcases hu with hu | hu
    · exact cellsOf_one tx l n u hu
    · simp only [pgCells, List.mem_cons, List.not_mem_nil, or_false] at hu
      rcases hu with rfl | rfl | rfl | rfl | rfl | rfl <;> rfl
end Go.Proofs.Ytdfkkebjdjmeiaa
