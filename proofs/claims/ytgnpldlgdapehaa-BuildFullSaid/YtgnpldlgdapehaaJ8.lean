/-
  Contracts of the functions of package octet (Put, New, Number, Bytes, Left, Rest, Zero and what they call), each with its conditions in its own statement: what a call returns and what becomes of memory.
-/
import Derived.Test.YtgnpldlgdapehaaJ1
import Derived.Test.YtgnpldlgdapehaaJ4
set_option linter.unusedVariables false
set_option linter.unusedSimpArgs false
namespace Go.Proofs.Ytgnpldlgdapehaa
open Go.RowKit
theorem infoU8 : (Try.prog.info? 5).map (fun i => (i.zero, i.size, i.bytes)) = some (some (.int .u8 0), 1, 1) := by kernel_rfl

theorem width_any (n : Int) (w : World) :
  Calls Try.prog 98 #[.int .i64 n] w fun e w' => e = .returned (.bool (decide (1 ≤ n) && decide (n ≤ 8))) ∧ w = w' := by
 by_cases h1 : 1 ≤ n <;> by_cases h2 : n ≤ 8 <;> go_enter Try.func98, Try.ntmps98 <;> go_wp2 <;> go_ret <;> exact ⟨by simp [h1, h2], rfl⟩

open Go.Lib
theorem oneCell_one {u : Value} (h : u.oneCell' = true) : ∀ v ∈ [u], v.oneCell' = true := by
 intro v hv; simp at hv; subst hv; exact h
theorem reads_new (w : World) (cs : Array Value) (t : TypeId) (fr : Nat × Nat) : Reads (w.alloc (.cells cs t fr)) (w.heap.size + 1) 1 (some ⟨w.heap.size, 0, none⟩) cs.size cs.toList := by
 refine ⟨by simp, fun _ => ⟨_, rfl, Nat.lt_succ_self _, fun j u hu => ?_⟩⟩
 have e : (⟨w.heap.size, 0, none⟩ : Addr).add j = ⟨w.heap.size, j, none⟩ := by unfold Addr.add; split <;> simp_all
 rw [e, World.cell?_alloc_mark]
 simpa using hu
theorem byte_cell (num j : Nat) : [Value.int .u8 ((num : Int) / 2 ^ (8 * j) % 256)] = bcells [(num / 2 ^ (8 * j) % 256).toUInt8] := by
 simp [bcells]
theorem put_yes (A : Option Addr) (n c num k : Nat) (l : List UInt8) (w : World) (hr : Reads w w.heap.size 1 A n (bcells l)) (hn : n + 8 ≤ 140737488355328) (h1 : 1 ≤ k) (h2 : k ≤ 8) :
  Calls Try.prog 93 #[.slice A n c, .int .u64 num, .int .i64 k] w fun e w' => ∃ v, e = .returned v ∧ w'.ownsRow w.heap.size 5 1 v (n + k) (bcells (l ++ Go.leBytes k num)) ∧ Below w.heap.size w w' := by
 obtain ⟨i0, hi0, hz0, hz1, hz2⟩ := info_parts infoU8
 have h1' : (1 : Int) ≤ k := by omega
 have h2' : (k : Int) ≤ 8 := by omega
 have hb : (decide ((1 : Int) ≤ k) && decide ((k : Int) ≤ 8)) = true := by simp; omega
 go_enter Try.func93, Try.ntmps93
 go_wp2_with (first
  | (go_at_call 98; refine (width_any _ _).mono ?_; rintro e w' ⟨rfl, rfl⟩)
  | (at_make; refine wpList_make_own _ rfl _ _ 118 rfl w.heap.size 5 i0 _ 1 Try.underlying118 hi0 hz0 hz1 _ _ _ (n + k) rfl rfl (by omega) (by rw [hz2]; omega) (by unfold maxLen; omega) (Nat.le_refl _) ?_; intro w1 hown1 hg1)
  | (at_builtin; refine wpList_append_any _ rfl (.tmp 17) (.tmp 18) _ rfl w.heap.size 5 i0 _ 1 1 Try.underlying118 hi0 hz0 hz1 hz2 rfl (by omega) _ 0 [] rfl hown1 w.heap.size A n c _ rfl (hr.below ((Below.refl _ _).grown hg1 (Nat.le_refl _) (by simp))) (bcells_one _) (by unfold maxLen; omega) (by omega) hg1.size ?_; intro v2 w2 hown2 hg2 hat2))
 have hb2 : Below w.heap.size w w2 := ((Below.refl _ _).grown hg1 (Nat.le_refl _) (by simp)).grown hg2 hg1.size (by rintro g ⟨⟩; exact Nat.le_refl _)
 clear hg1 hg2 hown1 hat2
 go_loopw [7, 21] (fun v i wr => ∃ j : Nat, j ≤ k ∧ i = .int .i64 j ∧ wr.ownsRow w.heap.size 5 1 v (n + j) (bcells (l ++ Go.leBytes j num)) ∧ Below w.heap.size w wr) (fun _ i _ => k - (RowKit.intOf i).toNat)
 case atStart => exact ⟨0, Nat.zero_le _, rfl, by simpa [Go.leBytes] using hown2, hb2⟩
 case round =>
  obtain ⟨j, hj, rfl, hown, hbr⟩ := hrel
  by_cases hlt : j < k
  ·go_wp2_with (first
    | (at_builtin; refine wpList_append_any _ rfl (.tmp 24) (.tmp 30) _ rfl w.heap.size 5 i0 _ 1 1 Try.underlying118 hi0 hz0 hz1 hz2 rfl (by omega) _ (n + j) _ rfl (hown.alloc _) (wr.heap.size + 1) (some ⟨wr.heap.size, 0, none⟩) 1 1 [Value.int .u8 ((num : Int) / 2 ^ (8 * j) % 256)] rfl (reads_new _ _ _ _) (oneCell_one rfl) (by unfold maxLen; omega) (by omega) (by have := hbr.size; simp; omega) ?_; intro v3 w3 hown3 hg3 hat3))
   go_roundw
   case rel =>
    refine ⟨j + 1, by omega, by go_num, ?_, ?_⟩
    ·rw [leBytes_snoc, ← List.append_assoc, bcells_append, ← byte_cell]
     exact hown3
    ·exact (hbr.alloc hbr.size _).grown hg3 (by have := hbr.size; simp; omega) (fun g hg => (hown.lt g hg).1)
   case measure => simp [RowKit.intOf]; omega
  ·go_wp2
   go_ret
   have : j = k := by omega
   subst this
   exact ⟨_, rfl, hown, hbr⟩


/-! The same, where the world behind is told by what it is good for: only the reader's block has turned. -/
end Go.Proofs.Ytgnpldlgdapehaa

