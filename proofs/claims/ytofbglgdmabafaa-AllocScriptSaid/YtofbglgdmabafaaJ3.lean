/-
  Texts that the main proof rests on, put together: DevPlain, KitLaw, Frame. No statement is proved here.
-/
import Derived.Lib.Strings
import Derived.Test.YtofbglgdmabafaaJ1
import Derived.Test.YtofbglgdmabafaaJ2
import Derived.Deep.DrawnRows
namespace Go.Proofs.Ytofbglgdmabafaa
set_option linter.unusedVariables false
set_option linter.unusedSimpArgs false

/-! On bytes. -/
def bWrite (size n : Nat) (b img : List UInt8) : List UInt8 :=
  (img ++ List.replicate (n * size + size - img.length) 0).take (n * size) ++ b ++ img.drop (n * size + size)
def bCut (size n : Nat) (img : List UInt8) : List UInt8 := img.take (n * size)

inductive POp where
  | wr (n : Nat) (b : ByteArray)
  | tr (n : Nat)
def POp.on (size : Nat) : POp → List UInt8 → List UInt8
  | .wr n b, img => bWrite size n b.data.toList img
  | .tr n, img => bCut size n img
def POp.ok (size cap : Nat) : POp → Prop
  | .wr n b => n < cap ∧ b.size = size
  | .tr n => n ≤ cap
/-! On pages. -/
structure Img where
  pages : List ByteArray
  rest : ByteArray
def Img.bytes (m : Img) : List UInt8 := m.pages.flatMap (fun p => p.data.toList) ++ m.rest.data.toList
def Img.good (size : Nat) (m : Img) : Prop := (∀ p ∈ m.pages, p.size = size) ∧ m.rest.size < size
def zs (n : Nat) : ByteArray := ⟨(List.replicate n (0 : UInt8)).toArray⟩
theorem size_list (s : ByteArray) : s.data.toList.length = s.size := by simp

theorem flat_len (size : Nat) : ∀ (l : List ByteArray), (∀ p ∈ l, p.size = size) → (l.flatMap fun p => p.data.toList).length = l.length * size
  | [], _ => by simp
  | p :: l, h => by
    have h1 := flat_len size l fun q hq => h q (List.mem_cons_of_mem _ hq)
    have h2 := h p List.mem_cons_self
    rw [List.flatMap_cons, List.length_append, h1, size_list, h2, List.length_cons, Nat.add_mul]
    omega
theorem flat_drop (size : Nat) : ∀ (l : List ByteArray) (n : Nat), (∀ p ∈ l, p.size = size) → (l.flatMap fun p => p.data.toList).drop (n * size) = (l.drop n).flatMap fun p => p.data.toList
  | [], n, _ => by simp
  | p :: l, 0, h => by simp
  | p :: l, n + 1, h => by
    have h1 := flat_drop size l n fun q hq => h q (List.mem_cons_of_mem _ hq)
    have h2 := h p List.mem_cons_self
    have h3 := size_list p
    rw [List.flatMap_cons, List.drop_succ_cons, List.drop_append, h3, h2, ← h1, List.drop_of_length_le (by rw [h3, h2, Nat.add_mul]; omega), List.nil_append]
    congr 1
    rw [Nat.add_mul]; omega

section
variable {size : Nat} {m : Img}
theorem Img.len (h : m.good size) : m.bytes.length = m.pages.length * size + m.rest.size := by
  unfold Img.bytes
  rw [List.length_append, flat_len size _ h.1, size_list]
theorem Img.count (h : m.good size) : m.bytes.length / size = m.pages.length := by
  have := h.2
  rw [Img.len h, Nat.mul_comm, Nat.mul_add_div (by omega), Nat.div_eq_of_lt h.2]
  omega
theorem Img.page (h : m.good size) {k : Nat} (hk : k < m.pages.length) : m.pages[k].data.toList = (m.bytes.drop (k * size)).take size := by
  unfold Img.bytes
  have hl := flat_len size _ h.1
  have hle : k * size + size ≤ m.pages.length * size := by rw [← Nat.succ_mul]; exact Nat.mul_le_mul_right _ hk
  rw [List.drop_append, flat_drop size _ _ h.1, List.drop_eq_getElem_cons hk, List.flatMap_cons, List.append_assoc]
  have hp : m.pages[k].size = size := h.1 _ (List.getElem_mem hk)
  rw [List.take_append, size_list, hp, List.take_of_length_le (by rw [size_list, hp]; omega)]
  simp

def Img.grow (size : Nat) (m : Img) (n : Nat) : Img :=
  if n ≤ m.pages.length then m else ⟨m.pages ++ (m.rest ++ (zs size).extract m.rest.size size) :: List.replicate (n - m.pages.length - 1) (zs size), ⟨#[]⟩⟩
end
end Go.Proofs.Ytofbglgdmabafaa

namespace Go.Proofs.Ytofbglgdmabafaa
open Go.RowKit
open Go.Lib
set_option linter.unusedVariables false
set_option linter.unusedSimpArgs false

end Go.Proofs.Ytofbglgdmabafaa

namespace Go.Proofs.Ytofbglgdmabafaa
open Go.RowKit
open Go.Lib
set_option linter.unusedVariables false
set_option linter.unusedSimpArgs false
attribute [local go_sem ↓] Go.wp_at_zero Go.wp_at_succ

end Go.Proofs.Ytofbglgdmabafaa

