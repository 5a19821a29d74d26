/-
  Contracts of the functions of package octet (Put, New, Number, Bytes, Left, Rest, Zero and what they call), each with its conditions in its own statement: what a call returns and what becomes of memory.
-/
import Derived.Test.YtihhchncglnbiaaWords
import Derived.Test.YtihhchncglnbiaaPlain
namespace Go.Proofs.Ytihhchncglnbiaa
open Go.RowKit
theorem infoU8 : (Try.prog.info? 5).map (fun i => (i.zero, i.size, i.bytes)) = some (some (.int .u8 0), 1, 1) := by kernel_rfl

open Go.Lib
theorem getElem_toList (s : ByteArray) (k : Nat) (h : k < s.size) : s.data.toList[k]'(by simpa using h) = s[k] := rfl
theorem oneCell_one {u : Value} (h : u.oneCell' = true) : ∀ v ∈ [u], v.oneCell' = true := by
  intro v hv; simp at hv; subst hv; exact h
theorem reads_new (w : World) (cs : Array Value) (t : TypeId) (fr : Nat × Nat) : Reads (w.alloc (.cells cs t fr)) (w.heap.size + 1) 1 (some ⟨w.heap.size, 0, none⟩) cs.size cs.toList := by
  refine ⟨by simp, fun _ => ⟨_, rfl, Nat.lt_succ_self _, fun j u hu => ?_⟩⟩
  have e : (⟨w.heap.size, 0, none⟩ : Addr).add j = ⟨w.heap.size, j, none⟩ := by unfold Addr.add; split <;> simp_all
  rw [e, World.cell?_alloc_mark]
  simpa using hu
theorem byte_cell (num j : Nat) : [Value.int .u8 ((num : Int) / 2 ^ (8 * j) % 256)] = bcells [(num / 2 ^ (8 * j) % 256).toUInt8] := by
  simp [bcells]
/-! The same, where the world behind is told by what it is good for: only the reader's block has turned. -/
end Go.Proofs.Ytihhchncglnbiaa
