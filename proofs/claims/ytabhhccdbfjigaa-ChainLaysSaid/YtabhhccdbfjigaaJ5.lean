/-
  Texts that the main proof rests on, put together: DevPlain, KitLaw, Frame. No statement is proved here.
-/
import Derived.Lib.Strings
import Derived.Test.YtabhhccdbfjigaaJ1
import Derived.Test.YtabhhccdbfjigaaJ2
import Derived.Test.YtabhhccdbfjigaaJ4
import Derived.Deep.DrawnRows
namespace Go.Proofs.Ytabhhccdbfjigaa
set_option linter.unusedVariables false
set_option linter.unusedSimpArgs false

/-! On bytes. -/
def bWrite (size n : Nat) (b img : List UInt8) : List UInt8 :=
  (img ++ List.replicate (n * size + size - img.length) 0).take (n * size) ++ b ++ img.drop (n * size + size)
def bCut (size n : Nat) (img : List UInt8) : List UInt8 := img.take (n * size)

inductive POp where
  | wr (n : Nat) (b : ByteArray)
  | tr (n : Nat)
def POp.on (size : Nat) : POp → List UInt8 → List UInt8
  | .wr n b, img => bWrite size n b.data.toList img
  | .tr n, img => bCut size n img
def POp.ok (size cap : Nat) : POp → Prop
  | .wr n b => n < cap ∧ b.size = size
  | .tr n => n ≤ cap
def allOn (size : Nat) (l : List POp) (img : List UInt8) : List UInt8 := l.foldl (fun i o => o.on size i) img
theorem allOn_snoc (size : Nat) (l : List POp) (o : POp) (img : List UInt8) : allOn size (l ++ [o]) img = o.on size (allOn size l img) := by simp [allOn]

theorem bWrite_len (size n : Nat) (b img : List UInt8) (hb : b.length = size) : (bWrite size n b img).length = max img.length (n * size + size) := by
  unfold bWrite
  simp [hb]
  omega

/-! On pages. -/
structure Img where
  pages : List ByteArray
  rest : ByteArray
def Img.bytes (m : Img) : List UInt8 := m.pages.flatMap (fun p => p.data.toList) ++ m.rest.data.toList
def Img.good (size : Nat) (m : Img) : Prop := (∀ p ∈ m.pages, p.size = size) ∧ m.rest.size < size
def zs (n : Nat) : ByteArray := ⟨(List.replicate n (0 : UInt8)).toArray⟩
theorem zs_size (n : Nat) : (zs n).size = n := by show (List.replicate n (0 : UInt8)).toArray.size = n; simp
theorem zs_list (n : Nat) : (zs n).data.toList = List.replicate n 0 := by simp [zs]

theorem size_list (s : ByteArray) : s.data.toList.length = s.size := by simp

theorem flat_len (size : Nat) : ∀ (l : List ByteArray), (∀ p ∈ l, p.size = size) → (l.flatMap fun p => p.data.toList).length = l.length * size
  | [], _ => by simp
  | p :: l, h => by
    have h1 := flat_len size l fun q hq => h q (List.mem_cons_of_mem _ hq)
    have h2 := h p List.mem_cons_self
    rw [List.flatMap_cons, List.length_append, h1, size_list, h2, List.length_cons, Nat.add_mul]
    omega
theorem flat_take (size : Nat) : ∀ (l : List ByteArray) (n : Nat), (∀ p ∈ l, p.size = size) → (l.flatMap fun p => p.data.toList).take (n * size) = (l.take n).flatMap fun p => p.data.toList
  | [], n, _ => by simp
  | p :: l, 0, h => by simp
  | p :: l, n + 1, h => by
    have h1 := flat_take size l n fun q hq => h q (List.mem_cons_of_mem _ hq)
    have h2 := h p List.mem_cons_self
    have h3 := size_list p
    rw [List.flatMap_cons, List.take_succ_cons, List.flatMap_cons, List.take_append, h3, h2, ← h1, List.take_of_length_le (by rw [h3, h2, Nat.add_mul]; omega)]
    congr 2
    rw [Nat.add_mul]; omega
theorem flat_drop (size : Nat) : ∀ (l : List ByteArray) (n : Nat), (∀ p ∈ l, p.size = size) → (l.flatMap fun p => p.data.toList).drop (n * size) = (l.drop n).flatMap fun p => p.data.toList
  | [], n, _ => by simp
  | p :: l, 0, h => by simp
  | p :: l, n + 1, h => by
    have h1 := flat_drop size l n fun q hq => h q (List.mem_cons_of_mem _ hq)
    have h2 := h p List.mem_cons_self
    have h3 := size_list p
    rw [List.flatMap_cons, List.drop_succ_cons, List.drop_append, h3, h2, ← h1, List.drop_of_length_le (by rw [h3, h2, Nat.add_mul]; omega), List.nil_append]
    congr 1
    rw [Nat.add_mul]; omega

section
variable {size : Nat} {m : Img}
theorem Img.len (h : m.good size) : m.bytes.length = m.pages.length * size + m.rest.size := by
  unfold Img.bytes
  rw [List.length_append, flat_len size _ h.1, size_list]
theorem Img.count (h : m.good size) : m.bytes.length / size = m.pages.length := by
  have := h.2
  rw [Img.len h, Nat.mul_comm, Nat.mul_add_div (by omega), Nat.div_eq_of_lt h.2]
  omega
theorem Img.page (h : m.good size) {k : Nat} (hk : k < m.pages.length) : m.pages[k].data.toList = (m.bytes.drop (k * size)).take size := by
  unfold Img.bytes
  have hl := flat_len size _ h.1
  have hle : k * size + size ≤ m.pages.length * size := by rw [← Nat.succ_mul]; exact Nat.mul_le_mul_right _ hk
  rw [List.drop_append, flat_drop size _ _ h.1, List.drop_eq_getElem_cons hk, List.flatMap_cons, List.append_assoc]
  have hp : m.pages[k].size = size := h.1 _ (List.getElem_mem hk)
  rw [List.take_append, size_list, hp, List.take_of_length_le (by rw [size_list, hp]; omega)]
  simp

def Img.grow (size : Nat) (m : Img) (n : Nat) : Img :=
  if n ≤ m.pages.length then m else ⟨m.pages ++ (m.rest ++ (zs size).extract m.rest.size size) :: List.replicate (n - m.pages.length - 1) (zs size), ⟨#[]⟩⟩
def Img.write (size n : Nat) (b : ByteArray) (m : Img) : Img := ⟨(m.grow size (n + 1)).pages.set n b, (m.grow size (n + 1)).rest⟩
def Img.cutTo (n : Nat) (m : Img) : Img := if m.pages.length < n then m else ⟨m.pages.take n, ⟨#[]⟩⟩

theorem fill_list (r : ByteArray) (h : r.size < size) : (r ++ (zs size).extract r.size size).data.toList = r.data.toList ++ List.replicate (size - r.size) 0 := by
  rw [ByteArray.data_append, Array.toList_append, ByteArray.data_extract, Array.toList_extract, zs_list]
  congr 1
  simp [List.extract]
theorem fill_size (r : ByteArray) (h : r.size < size) : (r ++ (zs size).extract r.size size).size = size := by
  rw [← size_list, fill_list r h, List.length_append, size_list, List.length_replicate]; omega
theorem flat_zs (size : Nat) : ∀ k, (List.replicate k (zs size)).flatMap (fun p => p.data.toList) = List.replicate (k * size) 0
  | 0 => by simp
  | k + 1 => by
    rw [List.replicate_succ, List.flatMap_cons, flat_zs size k, zs_list, List.replicate_append_replicate, Nat.add_mul]
    congr 1
    omega
theorem Img.grow_good (h : m.good size) (n : Nat) : (m.grow size n).good size := by
  unfold Img.grow
  split
  · exact h
  · refine ⟨fun p hp => ?_, by have := h.2; show (0 : Nat) < size; omega⟩
    simp only [List.mem_append, List.mem_cons, List.mem_replicate] at hp
    rcases hp with hp | rfl | ⟨_, rfl⟩
    · exact h.1 p hp
    · exact fill_size _ h.2
    · exact zs_size _
theorem Img.grow_pages (m : Img) (n : Nat) : (m.grow size n).pages.length = max m.pages.length n := by
  unfold Img.grow
  split
  · omega
  · simp; omega
theorem Img.grow_bytes (h : m.good size) (n : Nat) : (m.grow size n).bytes = m.bytes ++ List.replicate (n * size - m.bytes.length) 0 := by
  have hl := Img.len h
  have h2 := h.2
  unfold Img.grow
  split
  · rename_i hn
    have : n * size ≤ m.pages.length * size := Nat.mul_le_mul_right _ hn
    rw [show n * size - m.bytes.length = 0 by omega]
    simp
  · rename_i hn
    obtain ⟨j, rfl⟩ : ∃ j, n = m.pages.length + 1 + j := ⟨n - m.pages.length - 1, by omega⟩
    have e1 : (m.pages.length + 1 + j) * size = m.pages.length * size + size + j * size := by rw [Nat.add_mul, Nat.add_mul]; omega
    simp only [Img.bytes] at hl ⊢
    rw [List.flatMap_append, List.flatMap_cons, fill_list _ h2, show m.pages.length + 1 + j - m.pages.length - 1 = j by omega, flat_zs, hl, e1]
    simp only [List.append_assoc, List.append_nil, List.replicate_append_replicate]
    congr 3
    omega
theorem set_flat (size : Nat) (b : ByteArray) (l : List ByteArray) (n : Nat) (hn : n < l.length) (hl : ∀ p ∈ l, p.size = size) :
    (l.set n b).flatMap (fun p => p.data.toList) = (l.flatMap fun p => p.data.toList).take (n * size) ++ b.data.toList ++ (l.flatMap fun p => p.data.toList).drop (n * size + size) := by
  rw [show n * size + size = (n + 1) * size by rw [Nat.add_mul]; omega, flat_take size _ _ hl, flat_drop size _ _ hl, List.set_eq_take_append_cons_drop, if_pos hn]
  simp
theorem Img.write_good (h : m.good size) (n : Nat) (b : ByteArray) (hb : b.size = size) : (m.write size n b).good size := by
  have hg := Img.grow_good h (n + 1)
  refine ⟨fun p hp => ?_, hg.2⟩
  rcases List.mem_or_eq_of_mem_set hp with hp | rfl
  · exact hg.1 p hp
  · exact hb
theorem Img.write_bytes (h : m.good size) (n : Nat) (b : ByteArray) (hb : b.size = size) : (m.write size n b).bytes = bWrite size n b.data.toList m.bytes := by
  have hg := Img.grow_good h (n + 1)
  have hp := Img.grow_pages (size := size) m (n + 1)
  have hbts := Img.grow_bytes h (n + 1)
  have hn : n < (m.grow size (n + 1)).pages.length := by rw [hp]; omega
  have hfl := flat_len size _ hg.1
  have hle : n * size + size ≤ (m.grow size (n + 1)).pages.length * size := by rw [← Nat.succ_mul]; exact Nat.mul_le_mul_right _ hn
  have e1 : (n + 1) * size = n * size + size := by rw [Nat.add_mul]; omega
  rw [e1] at hbts
  unfold bWrite
  rw [← hbts]
  show (((m.grow size (n + 1)).pages.set n b).flatMap fun p => p.data.toList) ++ (m.grow size (n + 1)).rest.data.toList = _
  rw [set_flat size b _ n hn hg.1]
  have e2 : m.bytes.drop (n * size + size) = (m.grow size (n + 1)).bytes.drop (n * size + size) := by
    rw [hbts, List.drop_append]
    have : (List.replicate (n * size + size - m.bytes.length) (0 : UInt8)).drop (n * size + size - m.bytes.length) = [] := by simp
    rw [this, List.append_nil]
  rw [e2]
  unfold Img.bytes
  rw [List.take_append, List.drop_append, hfl, show n * size - (m.grow size (n + 1)).pages.length * size = 0 by omega, show n * size + size - (m.grow size (n + 1)).pages.length * size = 0 by omega]
  simp
theorem Img.write_pages (m : Img) (n : Nat) (b : ByteArray) : (m.write size n b).pages.length = max m.pages.length (n + 1) := by
  unfold Img.write
  simp [Img.grow_pages]
theorem Img.cutTo_good (h : m.good size) (n : Nat) : (m.cutTo n).good size := by
  unfold Img.cutTo
  split
  · exact h
  · exact ⟨fun p hp => h.1 p (List.mem_of_mem_take hp), by have := h.2; show (0 : Nat) < size; omega⟩
theorem Img.cutTo_bytes (h : m.good size) (n : Nat) : (m.cutTo n).bytes = bCut size n m.bytes := by
  have hl := Img.len h
  have h2 := h.2
  unfold Img.cutTo bCut
  split
  · rename_i hn
    have : (m.pages.length + 1) * size ≤ n * size := Nat.mul_le_mul_right _ hn
    rw [Nat.add_mul] at this
    rw [List.take_of_length_le (by omega)]
  · rename_i hn
    have hle : n * size ≤ m.pages.length * size := Nat.mul_le_mul_right _ (by omega)
    have hfl := flat_len size _ h.1
    unfold Img.bytes
    rw [List.take_append, hfl, show n * size - m.pages.length * size = 0 by omega, flat_take size _ _ h.1]
    simp
theorem Img.cutTo_pages (m : Img) (n : Nat) : (m.cutTo n).pages.length = min m.pages.length n := by
  unfold Img.cutTo
  split
  · omega
  · simp; omega

/-- An operation, as pages see it. -/
def Img.does (size : Nat) : POp → Img → Img
  | .wr n b, m => m.write size n b
  | .tr n, m => m.cutTo n
theorem Img.does_good {cap : Nat} {o : POp} (h : m.good size) (ho : o.ok size cap) : (m.does size o).good size := by
  cases o with
  | wr n b => exact Img.write_good h n b ho.2
  | tr n => exact Img.cutTo_good h n
theorem Img.does_bytes {cap : Nat} {o : POp} (h : m.good size) (ho : o.ok size cap) : (m.does size o).bytes = o.on size m.bytes := by
  cases o with
  | wr n b => exact Img.write_bytes h n b ho.2
  | tr n => exact Img.cutTo_bytes h n
theorem Img.does_pages {cap : Nat} {o : POp} (h : m.pages.length ≤ cap) (ho : o.ok size cap) : (m.does size o).pages.length ≤ cap := by
  cases o with
  | wr n b => have := ho.1; show (m.write size n b).pages.length ≤ cap; rw [Img.write_pages]; omega
  | tr n => show (m.cutTo n).pages.length ≤ cap; rw [Img.cutTo_pages]; omega

/-- The image of some bytes: the pages up to the k-th. -/
def cutUp (size k : Nat) (s : ByteArray) : List ByteArray := (List.range k).map fun j => s.extract (j * size) (j * size + size)
theorem cutUp_snoc (size k : Nat) (s : ByteArray) : cutUp size (k + 1) s = cutUp size k s ++ [s.extract (k * size) (k * size + size)] := by
  simp [cutUp, List.range_succ]
theorem cutUp_len (size k : Nat) (s : ByteArray) : (cutUp size k s).length = k := by simp [cutUp]
def cutImg (size : Nat) (s : ByteArray) : Img := ⟨cutUp size (s.size / size) s, s.extract (s.size / size * size) s.size⟩
theorem ext_list (s : ByteArray) (a b : Nat) : (s.extract a b).data.toList = (s.data.toList.drop a).take (b - a) := by
  rw [ByteArray.data_extract, Array.toList_extract]
theorem cutUp_flat (size : Nat) (s : ByteArray) : ∀ k, k * size ≤ s.size → (cutUp size k s).flatMap (fun p => p.data.toList) = s.data.toList.take (k * size)
  | 0, _ => by simp [cutUp]
  | k + 1, h => by
    rw [Nat.add_mul] at h
    rw [cutUp_snoc, List.flatMap_append, cutUp_flat size s k (by omega)]
    simp only [List.flatMap_cons, List.flatMap_nil, List.append_nil]
    rw [ext_list, show k * size + size - k * size = size by omega, Nat.add_mul, Nat.one_mul, List.take_add]
theorem cutImg_good (h : 0 < size) (s : ByteArray) : (cutImg size s).good size := by
  have hd := Nat.div_mul_le_self s.size size
  have hm := Nat.div_add_mod s.size size
  have hlt := Nat.mod_lt s.size h
  rw [Nat.mul_comm] at hm
  constructor
  · intro p hp
    obtain ⟨j, hj, rfl⟩ := List.mem_map.1 hp
    have hj := List.mem_range.1 hj
    have : (j + 1) * size ≤ s.size / size * size := Nat.mul_le_mul_right _ hj
    rw [Nat.add_mul] at this
    rw [ByteArray.size_extract]
    omega
  · show (s.extract (s.size / size * size) s.size).size < size
    rw [ByteArray.size_extract]
    omega
theorem cutImg_bytes (size : Nat) (s : ByteArray) : (cutImg size s).bytes = s.data.toList := by
  have hd := Nat.div_mul_le_self s.size size
  show (cutUp size (s.size / size) s).flatMap (fun p => p.data.toList) ++ (s.extract (s.size / size * size) s.size).data.toList = _
  rw [cutUp_flat size s _ hd, ext_list, List.take_of_length_le (l := s.data.toList.drop _) (by rw [List.length_drop, size_list]; omega), List.take_append_drop]
end
end Go.Proofs.Ytabhhccdbfjigaa
namespace Go.Proofs.Ytabhhccdbfjigaa
open Go.RowKit
open Go.Lib
set_option linter.unusedVariables false
set_option linter.unusedSimpArgs false

theorem infoInt : (Try.prog.info? 3).map (fun i => (i.zero, i.size, i.bytes)) = some (some (.int .i64 0), 1, 8) := by kernel_rfl
theorem ints_one {k : IntKind} (l : List Int) : ∀ u ∈ l.map (Value.int k), u.oneCell' = true := by
  intro u hu
  obtain ⟨b, _, rfl⟩ := List.mem_map.1 hu
  rfl
/-- A text so many times. -/
def rep (l : List UInt8) (n : Nat) : List UInt8 := (List.replicate n l).flatten
theorem rep_len (l : List UInt8) (n : Nat) : (rep l n).length = n * l.length := by simp [rep]
theorem rep_zero (l : List UInt8) : rep l 0 = [] := rfl
theorem rep_succ (l : List UInt8) (n : Nat) : rep l (n + 1) = l ++ rep l n := by simp [rep, List.replicate_succ]
theorem rep_add (l : List UInt8) (m n : Nat) : rep l (m + n) = rep l m ++ rep l n := by
  unfold rep; rw [← List.replicate_append_replicate, List.flatten_append]
theorem rep_double (l : List UInt8) : ∀ n, rep (l ++ l) n = rep l (n + n)
  | 0 => rfl
  | n + 1 => by rw [rep_succ, rep_double l n, show n + 1 + (n + 1) = (n + n) + 1 + 1 by omega, rep_succ, rep_succ, List.append_assoc]
theorem rep_one (b : UInt8) (n : Nat) : rep [b] n = List.replicate n b := by
  induction n with
  | zero => rfl
  | succ n ih => rw [rep_succ, ih]; rfl
def reps (s : ByteArray) (n : Nat) : ByteArray := ⟨(rep s.data.toList n).toArray⟩
theorem reps_list (s : ByteArray) (n : Nat) : (reps s n).data.toList = rep s.data.toList n := by simp [reps]
theorem reps_size (s : ByteArray) (n : Nat) : (reps s n).size = n * s.size := by
  rw [← size_list, reps_list, rep_len, size_list]
theorem bytes_ext {a b : ByteArray} (h : a.data.toList = b.data.toList) : a = b := by
  apply ByteArray.ext
  rw [← Array.toArray_toList (xs := a.data), h, Array.toArray_toList]
theorem mk_list (s : ByteArray) : (⟨s.data.toList.toArray⟩ : ByteArray) = s := by simp

set_option maxHeartbeats 1600000 in
theorem times_any (s : ByteArray) (n : Nat) (w : World) (hn : n ≤ 1048576) (hs : s.size ≤ 1048576) :
    Calls Try.prog 8 #[.string s, .int .i64 n] w fun e w' => e = .returned (.string (reps s n)) ∧ w = w' := by
  obtain ⟨T, hT⟩ : ∃ T, T = n * s.size := ⟨_, rfl⟩
  have hTle : T ≤ 1048576 * 1048576 := by rw [hT]; exact Nat.mul_le_mul hn hs
  have HT := Lib.hid hT
  clear hT
  go_enter Try.func8, Try.ntmps8
  go_wp2
  go_loop [0, 1, 5] (fun a k o => ∃ (a' : ByteArray) (k' : Nat) (o' : ByteArray), k' ≤ n ∧ a = .string a' ∧ k = .int .i64 k' ∧ o = .string o' ∧ Hid (o'.data.toList ++ rep a'.data.toList k' = rep s.data.toList n)) (fun _ k _ => (RowKit.intOf k).toNat)
  case atStart => exact ⟨s, n, ⟨#[]⟩, Nat.le_refl _, rfl, rfl, rfl, by show _ = _; simp⟩
  case round =>
    obtain ⟨a, k, o, hk, rfl, rfl, rfl, HI⟩ := hrel
    by_cases h0 : 0 < k
    · have hlen : o.size + k * a.size = T := by
        have := congrArg List.length HI.out
        rw [List.length_append, rep_len, rep_len, size_list, size_list, size_list, ← HT.out] at this
        exact this
      have ha : a.size ≤ k * a.size := Nat.le_mul_of_pos_left _ h0
      have ho1 : o.size ≤ 1099511627776 := by omega
      have ha1 : a.size ≤ 1099511627776 := by omega
      have hc1 : ¬ (9223372036854775807 < o.size + a.size) := by omega
      have hc2 : ¬ (9223372036854775807 < a.size + a.size) := by omega
      have HL := Lib.hid hlen
      clear hlen ha
      by_cases hodd : k % 2 = 1
      · have e1 : (k : Int) % 2 = 1 := by omega
        go_wp2
        go_round
        case rel =>
          refine ⟨a ++ a, k / 2, o ++ a, by omega, rfl, by rw [Int.natCast_ediv]; rfl, rfl, ?_⟩
          show _ = _
          have h2 : k = (k / 2 + k / 2) + 1 := by omega
          rw [← HI.out, ByteArray.data_append, ByteArray.data_append, Array.toList_append, Array.toList_append, rep_double, List.append_assoc, ← rep_succ, ← h2]
        case measure => simp [RowKit.intOf]; omega
      · have e1 : (k : Int) % 2 = 0 := by omega
        go_wp2
        go_round
        case rel =>
          refine ⟨a ++ a, k / 2, o, by omega, rfl, by rw [Int.natCast_ediv]; rfl, rfl, ?_⟩
          show _ = _
          have h2 : k = k / 2 + k / 2 := by omega
          rw [← HI.out, ByteArray.data_append, Array.toList_append, rep_double, ← h2]
        case measure => simp [RowKit.intOf]; omega
    · obtain rfl : k = 0 := by omega
      go_wp2
      go_ret
      refine ⟨?_, rfl⟩
      have h1 := HI.out
      rw [rep_zero, List.append_nil] at h1
      have : reps s n = o := bytes_ext (by rw [reps_list, h1])
      rw [this]; rfl

theorem reps_lit_size (b : UInt8) (n : Nat) : (reps ⟨#[b]⟩ n).size = n := by rw [reps_size]; show n * 1 = n; omega
end Go.Proofs.Ytabhhccdbfjigaa
namespace Go.Proofs.Ytabhhccdbfjigaa
open Go.RowKit
open Go.Lib
set_option linter.unusedVariables false
set_option linter.unusedSimpArgs false
attribute [local go_sem ↓] Go.wp_at_zero Go.wp_at_succ

theorem good_nat {size : Int} (h : goodSize size = true) : ∃ n : Nat, size = n ∧ 128 ≤ n ∧ n ≤ 4096 ∧ n % 64 = 0 := by
  simp [goodSize] at h
  exact ⟨size.toNat, by omega, by omega, by omega, by omega⟩

theorem room_yes (size : Int) (w : World) (h : goodSize size = true) :
    Calls Try.prog 61 #[.int .i64 size] w fun e w' => e = .returned (.int .i64 (size - 24)) ∧ w = w' := by
  obtain ⟨n, rfl, h1, h2, h3⟩ := good_nat h
  go_enter Try.func61, Try.ntmps61
  go_wp2_with (go_at_call 29; refine (dgood_any _ _).mono ?_; rw [h]; rintro e w' ⟨rfl, rfl⟩)
  go_ret
  exact ⟨rfl, rfl⟩
theorem room_no (size : Int) (w : World) (h : goodSize size = false) :
    Calls Try.prog 61 #[.int .i64 size] w fun e w' => e = .returned (.int .i64 0) ∧ w = w' := by
  go_enter Try.func61, Try.ntmps61
  go_wp2_with (go_at_call 29; refine (dgood_any _ _).mono ?_; rw [h]; rintro e w' ⟨rfl, rfl⟩)
  go_ret
  exact ⟨rfl, rfl⟩
theorem fpages_yes (size : Nat) (s : ByteArray) (w : World) (h : goodSize size = true) (hs : s.size ≤ maxLen) :
    Calls Try.prog 101 #[.int .i64 size, .string s] w fun e w' => e = .returned (.int .i64 ((s.size / size : Nat) : Int)) ∧ w = w' := by
  have hp := good_pos h
  have h0 : ¬ (size : Int) = 0 := by omega
  have hq : wrap64 ((s.size : Int) / (size : Int)) = ((s.size / size : Nat) : Int) := by
    have h1 : s.size / size ≤ s.size := Nat.div_le_self _ _
    unfold maxLen at hs
    rw [← Int.natCast_ediv]
    generalize s.size / size = q at *
    unfold wrap64
    omega
  go_enter Try.func101, Try.ntmps101
  go_wp2_with (go_at_call 29; refine (dgood_any _ _).mono ?_; rw [h]; rintro e w' ⟨rfl, rfl⟩)
  go_ret
  exact ⟨by rw [← hq]; rfl, rfl⟩
theorem fpages_no (size : Int) (s : ByteArray) (w : World) (h : goodSize size = false) :
    Calls Try.prog 101 #[.int .i64 size, .string s] w fun e w' => e = .returned (.int .i64 0) ∧ w = w' := by
  go_enter Try.func101, Try.ntmps101
  go_wp2_with (go_at_call 29; refine (dgood_any _ _).mono ?_; rw [h]; rintro e w' ⟨rfl, rfl⟩)
  go_ret
  exact ⟨rfl, rfl⟩

/-- The reader's block. -/
def RdB (w : World) (g : Nat) (size : Int) (s : ByteArray) : Prop := Blk w g 136 #[.int .i64 size, .string s]

theorem need_yes (size : Int) (s : ByteArray) (e : Int) (w : World) :
    Calls Try.prog 120 #[.agg #[.int .i64 size, .string s], .bool true, .int .i64 e] w fun e w' => e = .returned (.tuple #[]) ∧ Below w.heap.size w w' := by
  go_enter Try.func120, Try.ntmps120
  go_wp2
  go_end0
  exact ⟨rfl, (Below.refl _ _).alloc (Nat.le_refl _) _⟩
theorem need_no (size : Int) (s : ByteArray) (n : Int) (w : World) :
    Calls Try.prog 120 #[.agg #[.int .i64 size, .string s], .bool false, .int .i64 n] w fun e w' => e = .panicked [{ v := .iface 134 (.int .i64 n), recovered := false }] ∧ Below w.heap.size w w' := by
  go_enter Try.func120, Try.ntmps120
  go_wp2
  exact ⟨rfl, rfl, (Below.refl _ _).alloc (Nat.le_refl _) _⟩
set_option maxHeartbeats 1600000 in
theorem rnum (size : Int) (s : ByteArray) (f t : Nat) (w : World) (h1 : f < t) (h2 : t ≤ f + 8) (h3 : t ≤ s.size) (hs : s.size ≤ 1000000) :
    Calls Try.prog 121 #[.agg #[.int .i64 size, .string s], .int .i64 f, .int .i64 t] w fun e w' => e = .returned (.int .u64 (leNat (List.take (t - f) (List.drop f s.data.toList)))) ∧ Below w.heap.size w w' := by
  have q1 : (0 : Int) ≤ f := by omega
  have q2 : (f : Int) ≤ t := by omega
  have q3 : (t : Int) ≤ s.size := by omega
  have hsz : (s.extract f t).size = t - f := by rw [ByteArray.size_extract]; omega
  have hl : ((s.extract f t).data.toList).take (t - f) = (s.extract f t).data.toList := by
    rw [List.take_of_length_le]; rw [size_list, hsz]; exact Nat.le_refl _
  have hd : ((t : Int) - f) = ((t - f : Nat) : Int) := by omega
  have HSZ := Lib.hid hsz
  have HL := Lib.hid hl
  clear hsz hl
  have b0 : Blk (w.alloc (.cells #[.int .i64 size, .string s] 136)) w.heap.size 136 #[.int .i64 size, .string s] := Blk.new _ _ _
  have B0 := Lib.hid b0
  clear b0
  go_enter Try.func121, Try.ntmps121
  go_wp2_with fail
  refine (new_any' _ _).mono ?_
  rintro e w1 ⟨rfl, hr, hb1, hlt⟩
  rw [show (w.alloc (.cells #[.int .i64 size, .string s] 136)).heap.size = w.heap.size + 1 by simp] at hr hb1 hlt
  go_wp2_with fail
  refine (number_ok' hr (t - f) (by omega) (by omega) (by rw [HSZ.out]; exact Nat.le_refl _)).mono ?_
  rw [HL.out]
  rintro e w2 ⟨rfl, hr2, hg2⟩
  have c1 := (B0.out.below hb1 (Nat.lt_succ_self _)).grown hg2 (by simp)
  have k0 := c1.cell 0
  have k1 := c1.cell 1
  simp at k0 k1
  clear c1 hr2 hr
  go_wp2_with fail
  refine (need_yes _ _ _ _).mono ?_
  rintro e w3 ⟨rfl, hb3⟩
  go_wp2_with fail
  go_ret
  refine ⟨rfl, ?_⟩
  have hb0 : Below w.heap.size w (w.alloc (.cells #[.int .i64 size, .string s] 136)) := (Below.refl _ _).alloc (Nat.le_refl _) _
  have hb01 := hb0.trans (hb1.mono (Nat.le_succ _))
  have hb02 := hb01.grown hg2 hb01.size (by rintro g ⟨⟩; simp)
  exact hb02.trans (hb3.mono hb02.size)

end Go.Proofs.Ytabhhccdbfjigaa
