/-
  Texts that the main proof rests on, put together: FrameValid, Ref4May, StructRows, Bk, Ref6Find. No statement is proved here.
-/
import Derived.Test.YtofbglgdmabafaaJ3
import Derived.Test.YtofbglgdmabafaaJ1
import Derived.Sort.Walk0
import Derived.Deep.DrawnRows
import Derived.Lib.Hide
namespace Go.Proofs.Ytofbglgdmabafaa
open Go.RowKit
open Go.Lib
set_option linter.unusedVariables false
set_option linter.unusedSimpArgs false
attribute [local go_sem ↓] Go.wp_at_zero Go.wp_at_succ

end Go.Proofs.Ytofbglgdmabafaa

namespace Go.Proofs.Ytofbglgdmabafaa
open Go.RowKit
open Go.Lib
set_option linter.unusedVariables false
set_option linter.unusedSimpArgs false
attribute [local go_sem ↓] Go.wp_at_zero Go.wp_at_succ

end Go.Proofs.Ytofbglgdmabafaa

namespace Go.Proofs.Ytofbglgdmabafaa
open Go.RowKit
set_option linter.unusedVariables false
set_option linter.unusedSimpArgs false

section
variable {α : Type} {f : α → List Value} {k : Nat}
end
/-- An append of a slice that reads as a list, whatever its address, at a step of a region that draws its order. -/
theorem step_append_any {P : Program} {w : World} {ops : Array Oper} {o : Oper} {a : Act} {K : Act → World → Prop} {Q : Exit → Act → World → Prop} {E : Prop} (hgd : o.guard = none) (s x : Operand) (t : TypeId)
    (ho : o.op = .call { callee := .builtin .append, args := #[s, x], argTypes := #[t, t] })
    (base : Nat) (e : TypeId) (i : TypeInfo) (z : Value) (size bytes : Nat) (ht : P.underlying t = some (.slice e)) (hi : P.info? e = some i) (hz : i.zero = some z)
    (hsize : i.size = size) (hby : i.bytes = bytes) (hzs : z.cells.size = size) (hsz : 0 < size)
    (v : Value) (n : Nat) (xs : List Value) (hs : a.eval s = v) (hown : w.ownsRow base e size v n xs)
    (B : Nat) (A : Option Addr) (m c : Nat) (news : List Value) (hx : a.eval x = .slice A m c) (hr : Reads w B size A m news) (h1 : ∀ u ∈ news, u.oneCell' = true)
    (h63 : n + m ≤ maxLen) (hbytes : (n + m) * bytes ≤ 140737488355328) (hbase : base ≤ w.heap.size)
    (h : ∀ v' w', w'.ownsRow base e size v' (n + m) (xs ++ news) → w.grownBy w' v.ownBlock → (v'.ownBlock = v.ownBlock ∨ v'.ownBlock = some w.heap.size) → K (a.put o.dst v') w') :
    if Region.wanted o (yielded ops a.tmps) = true then Oper.wp P o a w K Q else E := by
  have hw : Region.wanted o (yielded ops a.tmps) = true := by simp [Region.wanted, hgd]
  rw [if_pos hw]
  exact wp_append_any w s x t ho base e i z size bytes ht hi hz hsize hby hzs hsz v n xs hs hown B A m c news hx hr h1 h63 hbytes hbase h
end Go.Proofs.Ytofbglgdmabafaa

namespace Go.Proofs.Ytofbglgdmabafaa
open Go.RowKit
set_option linter.unusedVariables false
set_option linter.unusedSimpArgs false

structure Bk where
  nm : ByteArray
  rt : Nat
  ks : Int
def Bk.cells (b : Bk) : List Value := [.string b.nm, .int .u32 b.rt, .int .i64 b.ks]
/-- A bucket's cells stand at p. -/
def BkAt (w : World) (p : Addr) (b : Bk) : Prop := w.cell? p = some (.string b.nm) ∧ w.cell? ⟨p.block, p.off + 1, none⟩ = some (.int .u32 b.rt) ∧ w.cell? ⟨p.block, p.off + 2, none⟩ = some (.int .i64 b.ks)
theorem BkAt.below {w w' : World} {B : Nat} {p : Addr} {b : Bk} (h : BkAt w p b) (hb : Below B w w') (hp : p.block < B) : BkAt w' p b :=
  ⟨(hb.cell (p := p) hp).trans h.1, (hb.cell (p := ⟨p.block, p.off + 1, none⟩) hp).trans h.2.1, (hb.cell (p := ⟨p.block, p.off + 2, none⟩) hp).trans h.2.2⟩
end Go.Proofs.Ytofbglgdmabafaa

namespace Go.Proofs.Ytofbglgdmabafaa
open Go.RowKit
open Go.Lib hiding intOf
set_option linter.unusedVariables false
set_option linter.unusedSimpArgs false
attribute [local go_sem ↓] Go.wp_at_zero Go.wp_at_succ

end Go.Proofs.Ytofbglgdmabafaa

