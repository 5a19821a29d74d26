/-
  Plain lemmas on files of pages: bytes, pages of bytes, writes and truncations. Nothing here speaks of the program; no statement is proved here.
-/
import Derived.Lib.Strings
namespace Go.Proofs.Ytgnpldlgdapehaa
set_option linter.unusedVariables false
set_option linter.unusedSimpArgs false

/-! On bytes. -/
def bWrite (size n : Nat) (b img : List UInt8) : List UInt8 :=
  (img ++ List.replicate (n * size + size - img.length) 0).take (n * size) ++ b ++ img.drop (n * size + size)
def bCut (size n : Nat) (img : List UInt8) : List UInt8 := img.take (n * size)

inductive POp where
  | wr (n : Nat) (b : ByteArray)
  | tr (n : Nat)
def POp.on (size : Nat) : POp → List UInt8 → List UInt8
  | .wr n b, img => bWrite size n b.data.toList img
  | .tr n, img => bCut size n img
def POp.ok (size cap : Nat) : POp → Prop
  | .wr n b => n < cap ∧ b.size = size
  | .tr n => n ≤ cap
def allOn (size : Nat) (l : List POp) (img : List UInt8) : List UInt8 := l.foldl (fun i o => o.on size i) img
theorem allOn_snoc (size : Nat) (l : List POp) (o : POp) (img : List UInt8) : allOn size (l ++ [o]) img = o.on size (allOn size l img) := by simp [allOn]

theorem bWrite_len (size n : Nat) (b img : List UInt8) (hb : b.length = size) : (bWrite size n b img).length = max img.length (n * size + size) := by
  unfold bWrite
  simp [hb]
  omega

/-! On pages. -/
structure Img where
  pages : List ByteArray
  rest : ByteArray
def Img.bytes (m : Img) : List UInt8 := m.pages.flatMap (fun p => p.data.toList) ++ m.rest.data.toList
def Img.good (size : Nat) (m : Img) : Prop := (∀ p ∈ m.pages, p.size = size) ∧ m.rest.size < size
def zs (n : Nat) : ByteArray := ⟨(List.replicate n (0 : UInt8)).toArray⟩
theorem zs_size (n : Nat) : (zs n).size = n := by show (List.replicate n (0 : UInt8)).toArray.size = n; simp
theorem zs_list (n : Nat) : (zs n).data.toList = List.replicate n 0 := by simp [zs]

theorem size_list (s : ByteArray) : s.data.toList.length = s.size := by simp

theorem flat_len (size : Nat) : ∀ (l : List ByteArray), (∀ p ∈ l, p.size = size) → (l.flatMap fun p => p.data.toList).length = l.length * size
  | [], _ => by simp
  | p :: l, h => by
    have h1 := flat_len size l fun q hq => h q (List.mem_cons_of_mem _ hq)
    have h2 := h p List.mem_cons_self
    rw [List.flatMap_cons, List.length_append, h1, size_list, h2, List.length_cons, Nat.add_mul]
    omega
theorem flat_take (size : Nat) : ∀ (l : List ByteArray) (n : Nat), (∀ p ∈ l, p.size = size) → (l.flatMap fun p => p.data.toList).take (n * size) = (l.take n).flatMap fun p => p.data.toList
  | [], n, _ => by simp
  | p :: l, 0, h => by simp
  | p :: l, n + 1, h => by
    have h1 := flat_take size l n fun q hq => h q (List.mem_cons_of_mem _ hq)
    have h2 := h p List.mem_cons_self
    have h3 := size_list p
    rw [List.flatMap_cons, List.take_succ_cons, List.flatMap_cons, List.take_append, h3, h2, ← h1, List.take_of_length_le (by rw [h3, h2, Nat.add_mul]; omega)]
    congr 2
    rw [Nat.add_mul]; omega
theorem flat_drop (size : Nat) : ∀ (l : List ByteArray) (n : Nat), (∀ p ∈ l, p.size = size) → (l.flatMap fun p => p.data.toList).drop (n * size) = (l.drop n).flatMap fun p => p.data.toList
  | [], n, _ => by simp
  | p :: l, 0, h => by simp
  | p :: l, n + 1, h => by
    have h1 := flat_drop size l n fun q hq => h q (List.mem_cons_of_mem _ hq)
    have h2 := h p List.mem_cons_self
    have h3 := size_list p
    rw [List.flatMap_cons, List.drop_succ_cons, List.drop_append, h3, h2, ← h1, List.drop_of_length_le (by rw [h3, h2, Nat.add_mul]; omega), List.nil_append]
    congr 1
    rw [Nat.add_mul]; omega

section
variable {size : Nat} {m : Img}
theorem Img.len (h : m.good size) : m.bytes.length = m.pages.length * size + m.rest.size := by
  unfold Img.bytes
  rw [List.length_append, flat_len size _ h.1, size_list]
theorem Img.count (h : m.good size) : m.bytes.length / size = m.pages.length := by
  have := h.2
  rw [Img.len h, Nat.mul_comm, Nat.mul_add_div (by omega), Nat.div_eq_of_lt h.2]
  omega
theorem Img.page (h : m.good size) {k : Nat} (hk : k < m.pages.length) : m.pages[k].data.toList = (m.bytes.drop (k * size)).take size := by
  unfold Img.bytes
  have hl := flat_len size _ h.1
  have hle : k * size + size ≤ m.pages.length * size := by rw [← Nat.succ_mul]; exact Nat.mul_le_mul_right _ hk
  rw [List.drop_append, flat_drop size _ _ h.1, List.drop_eq_getElem_cons hk, List.flatMap_cons, List.append_assoc]
  have hp : m.pages[k].size = size := h.1 _ (List.getElem_mem hk)
  rw [List.take_append, size_list, hp, List.take_of_length_le (by rw [size_list, hp]; omega)]
  simp

def Img.grow (size : Nat) (m : Img) (n : Nat) : Img :=
  if n ≤ m.pages.length then m else ⟨m.pages ++ (m.rest ++ (zs size).extract m.rest.size size) :: List.replicate (n - m.pages.length - 1) (zs size), ⟨#[]⟩⟩
def Img.write (size n : Nat) (b : ByteArray) (m : Img) : Img := ⟨(m.grow size (n + 1)).pages.set n b, (m.grow size (n + 1)).rest⟩
def Img.cutTo (n : Nat) (m : Img) : Img := if m.pages.length < n then m else ⟨m.pages.take n, ⟨#[]⟩⟩

theorem fill_list (r : ByteArray) (h : r.size < size) : (r ++ (zs size).extract r.size size).data.toList = r.data.toList ++ List.replicate (size - r.size) 0 := by
  rw [ByteArray.data_append, Array.toList_append, ByteArray.data_extract, Array.toList_extract, zs_list]
  congr 1
  simp [List.extract]
theorem fill_size (r : ByteArray) (h : r.size < size) : (r ++ (zs size).extract r.size size).size = size := by
  rw [← size_list, fill_list r h, List.length_append, size_list, List.length_replicate]; omega
theorem flat_zs (size : Nat) : ∀ k, (List.replicate k (zs size)).flatMap (fun p => p.data.toList) = List.replicate (k * size) 0
  | 0 => by simp
  | k + 1 => by
    rw [List.replicate_succ, List.flatMap_cons, flat_zs size k, zs_list, List.replicate_append_replicate, Nat.add_mul]
    congr 1
    omega
theorem Img.grow_good (h : m.good size) (n : Nat) : (m.grow size n).good size := by
  unfold Img.grow
  split
  · exact h
  · refine ⟨fun p hp => ?_, by have := h.2; show (0 : Nat) < size; omega⟩
    simp only [List.mem_append, List.mem_cons, List.mem_replicate] at hp
    rcases hp with hp | rfl | ⟨_, rfl⟩
    · exact h.1 p hp
    · exact fill_size _ h.2
    · exact zs_size _
theorem Img.grow_pages (m : Img) (n : Nat) : (m.grow size n).pages.length = max m.pages.length n := by
  unfold Img.grow
  split
  · omega
  · simp; omega
theorem Img.grow_bytes (h : m.good size) (n : Nat) : (m.grow size n).bytes = m.bytes ++ List.replicate (n * size - m.bytes.length) 0 := by
  have hl := Img.len h
  have h2 := h.2
  unfold Img.grow
  split
  · rename_i hn
    have : n * size ≤ m.pages.length * size := Nat.mul_le_mul_right _ hn
    rw [show n * size - m.bytes.length = 0 by omega]
    simp
  · rename_i hn
    obtain ⟨j, rfl⟩ : ∃ j, n = m.pages.length + 1 + j := ⟨n - m.pages.length - 1, by omega⟩
    have e1 : (m.pages.length + 1 + j) * size = m.pages.length * size + size + j * size := by rw [Nat.add_mul, Nat.add_mul]; omega
    simp only [Img.bytes] at hl ⊢
    rw [List.flatMap_append, List.flatMap_cons, fill_list _ h2, show m.pages.length + 1 + j - m.pages.length - 1 = j by omega, flat_zs, hl, e1]
    simp only [List.append_assoc, List.append_nil, List.replicate_append_replicate]
    congr 3
    omega
theorem set_flat (size : Nat) (b : ByteArray) (l : List ByteArray) (n : Nat) (hn : n < l.length) (hl : ∀ p ∈ l, p.size = size) :
    (l.set n b).flatMap (fun p => p.data.toList) = (l.flatMap fun p => p.data.toList).take (n * size) ++ b.data.toList ++ (l.flatMap fun p => p.data.toList).drop (n * size + size) := by
  rw [show n * size + size = (n + 1) * size by rw [Nat.add_mul]; omega, flat_take size _ _ hl, flat_drop size _ _ hl, List.set_eq_take_append_cons_drop, if_pos hn]
  simp
theorem Img.write_good (h : m.good size) (n : Nat) (b : ByteArray) (hb : b.size = size) : (m.write size n b).good size := by
  have hg := Img.grow_good h (n + 1)
  refine ⟨fun p hp => ?_, hg.2⟩
  rcases List.mem_or_eq_of_mem_set hp with hp | rfl
  · exact hg.1 p hp
  · exact hb
theorem Img.write_bytes (h : m.good size) (n : Nat) (b : ByteArray) (hb : b.size = size) : (m.write size n b).bytes = bWrite size n b.data.toList m.bytes := by
  have hg := Img.grow_good h (n + 1)
  have hp := Img.grow_pages (size := size) m (n + 1)
  have hbts := Img.grow_bytes h (n + 1)
  have hn : n < (m.grow size (n + 1)).pages.length := by rw [hp]; omega
  have hfl := flat_len size _ hg.1
  have hle : n * size + size ≤ (m.grow size (n + 1)).pages.length * size := by rw [← Nat.succ_mul]; exact Nat.mul_le_mul_right _ hn
  have e1 : (n + 1) * size = n * size + size := by rw [Nat.add_mul]; omega
  rw [e1] at hbts
  unfold bWrite
  rw [← hbts]
  show (((m.grow size (n + 1)).pages.set n b).flatMap fun p => p.data.toList) ++ (m.grow size (n + 1)).rest.data.toList = _
  rw [set_flat size b _ n hn hg.1]
  have e2 : m.bytes.drop (n * size + size) = (m.grow size (n + 1)).bytes.drop (n * size + size) := by
    rw [hbts, List.drop_append]
    have : (List.replicate (n * size + size - m.bytes.length) (0 : UInt8)).drop (n * size + size - m.bytes.length) = [] := by simp
    rw [this, List.append_nil]
  rw [e2]
  unfold Img.bytes
  rw [List.take_append, List.drop_append, hfl, show n * size - (m.grow size (n + 1)).pages.length * size = 0 by omega, show n * size + size - (m.grow size (n + 1)).pages.length * size = 0 by omega]
  simp
theorem Img.write_pages (m : Img) (n : Nat) (b : ByteArray) : (m.write size n b).pages.length = max m.pages.length (n + 1) := by
  unfold Img.write
  simp [Img.grow_pages]
theorem Img.cutTo_good (h : m.good size) (n : Nat) : (m.cutTo n).good size := by
  unfold Img.cutTo
  split
  · exact h
  · exact ⟨fun p hp => h.1 p (List.mem_of_mem_take hp), by have := h.2; show (0 : Nat) < size; omega⟩
theorem Img.cutTo_bytes (h : m.good size) (n : Nat) : (m.cutTo n).bytes = bCut size n m.bytes := by
  have hl := Img.len h
  have h2 := h.2
  unfold Img.cutTo bCut
  split
  · rename_i hn
    have : (m.pages.length + 1) * size ≤ n * size := Nat.mul_le_mul_right _ hn
    rw [Nat.add_mul] at this
    rw [List.take_of_length_le (by omega)]
  · rename_i hn
    have hle : n * size ≤ m.pages.length * size := Nat.mul_le_mul_right _ (by omega)
    have hfl := flat_len size _ h.1
    unfold Img.bytes
    rw [List.take_append, hfl, show n * size - m.pages.length * size = 0 by omega, flat_take size _ _ h.1]
    simp
theorem Img.cutTo_pages (m : Img) (n : Nat) : (m.cutTo n).pages.length = min m.pages.length n := by
  unfold Img.cutTo
  split
  · omega
  · simp; omega

/-- An operation, as pages see it. -/
def Img.does (size : Nat) : POp → Img → Img
  | .wr n b, m => m.write size n b
  | .tr n, m => m.cutTo n
theorem Img.does_good {cap : Nat} {o : POp} (h : m.good size) (ho : o.ok size cap) : (m.does size o).good size := by
  cases o with
  | wr n b => exact Img.write_good h n b ho.2
  | tr n => exact Img.cutTo_good h n
theorem Img.does_bytes {cap : Nat} {o : POp} (h : m.good size) (ho : o.ok size cap) : (m.does size o).bytes = o.on size m.bytes := by
  cases o with
  | wr n b => exact Img.write_bytes h n b ho.2
  | tr n => exact Img.cutTo_bytes h n
theorem Img.does_pages {cap : Nat} {o : POp} (h : m.pages.length ≤ cap) (ho : o.ok size cap) : (m.does size o).pages.length ≤ cap := by
  cases o with
  | wr n b => have := ho.1; show (m.write size n b).pages.length ≤ cap; rw [Img.write_pages]; omega
  | tr n => show (m.cutTo n).pages.length ≤ cap; rw [Img.cutTo_pages]; omega

/-- The image of some bytes: the pages up to the k-th. -/
def cutUp (size k : Nat) (s : ByteArray) : List ByteArray := (List.range k).map fun j => s.extract (j * size) (j * size + size)
theorem cutUp_snoc (size k : Nat) (s : ByteArray) : cutUp size (k + 1) s = cutUp size k s ++ [s.extract (k * size) (k * size + size)] := by
  simp [cutUp, List.range_succ]
theorem cutUp_len (size k : Nat) (s : ByteArray) : (cutUp size k s).length = k := by simp [cutUp]
def cutImg (size : Nat) (s : ByteArray) : Img := ⟨cutUp size (s.size / size) s, s.extract (s.size / size * size) s.size⟩
theorem ext_list (s : ByteArray) (a b : Nat) : (s.extract a b).data.toList = (s.data.toList.drop a).take (b - a) := by
  rw [ByteArray.data_extract, Array.toList_extract]
theorem cutUp_flat (size : Nat) (s : ByteArray) : ∀ k, k * size ≤ s.size → (cutUp size k s).flatMap (fun p => p.data.toList) = s.data.toList.take (k * size)
  | 0, _ => by simp [cutUp]
  | k + 1, h => by
    rw [Nat.add_mul] at h
    rw [cutUp_snoc, List.flatMap_append, cutUp_flat size s k (by omega)]
    simp only [List.flatMap_cons, List.flatMap_nil, List.append_nil]
    rw [ext_list, show k * size + size - k * size = size by omega, Nat.add_mul, Nat.one_mul, List.take_add]
theorem cutImg_good (h : 0 < size) (s : ByteArray) : (cutImg size s).good size := by
  have hd := Nat.div_mul_le_self s.size size
  have hm := Nat.div_add_mod s.size size
  have hlt := Nat.mod_lt s.size h
  rw [Nat.mul_comm] at hm
  constructor
  · intro p hp
    obtain ⟨j, hj, rfl⟩ := List.mem_map.1 hp
    have hj := List.mem_range.1 hj
    have : (j + 1) * size ≤ s.size / size * size := Nat.mul_le_mul_right _ hj
    rw [Nat.add_mul] at this
    rw [ByteArray.size_extract]
    omega
  · show (s.extract (s.size / size * size) s.size).size < size
    rw [ByteArray.size_extract]
    omega
theorem cutImg_bytes (size : Nat) (s : ByteArray) : (cutImg size s).bytes = s.data.toList := by
  have hd := Nat.div_mul_le_self s.size size
  show (cutUp size (s.size / size) s).flatMap (fun p => p.data.toList) ++ (s.extract (s.size / size * size) s.size).data.toList = _
  rw [cutUp_flat size s _ hd, ext_list, List.take_of_length_le (l := s.data.toList.drop _) (by rw [List.length_drop, size_list]; omega), List.take_append_drop]
end
end Go.Proofs.Ytgnpldlgdapehaa
