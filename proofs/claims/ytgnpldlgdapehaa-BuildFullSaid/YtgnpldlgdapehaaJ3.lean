/-
  Contract of build.Cut: the ends of the parts.
-/
import Derived.Test.YtgnpldlgdapehaaJ2
import Derived.Deep.DrawnRows
import Derived.Lib.Hide
import Derived.Lib.MinMax
set_option linter.unusedVariables false
set_option linter.unusedSimpArgs false
namespace Go.Proofs.Ytgnpldlgdapehaa
open Go.RowKit
attribute [local go_sem ↓] Go.wp_at_zero Go.wp_at_succ

def ncells (l : List Nat) : List Value := l.map fun (e : Nat) => Value.int .i64 (e : Int)
def icells (l : List Int) : List Value := l.map (Value.int .i64)
theorem infoI13 : (Try.prog.info? 3).map (fun i => (i.zero, i.size, i.bytes)) = some (some (.int .i64 0), 1, 8) := by kernel_rfl
theorem ncells_snoc (l : List Nat) (e : Nat) : ncells l ++ [.int .i64 (e : Int)] = ncells (l ++ [e]) := by simp [ncells]
theorem ncells_len (l : List Nat) : (ncells l).length = l.length := by simp [ncells]
theorem icells_len (l : List Int) : (icells l).length = l.length := by simp [icells]
theorem one_read (w : World) (t : TypeId) (v : Value) : Reads (w.alloc (.cells #[v] t)) (w.heap.size + 1) 1 (some ⟨w.heap.size, 0, none⟩) 1 [v] := by
 refine ⟨rfl, fun _ => ⟨_, rfl, Nat.lt_succ_self _, fun j u hu => ?_⟩⟩
 have e : (⟨w.heap.size, 0, none⟩ : Addr).add j = ⟨w.heap.size, j, none⟩ := by unfold Addr.add; split <;> simp_all
 rw [e, (Blk.new w t #[v]).cell j]
 simpa using hu
set_option maxRecDepth 100000 in
set_option maxHeartbeats 6400000 in
theorem cut_any (A : Option Addr) (n c : Nat) (l : List Int) (room : Int) (w : World) {B : Nat} (hB : B ≤ w.heap.size) (hr : Reads w B 1 A n (icells l)) (hn : n ≤ 1000000) (hi : ∀ x ∈ l, -9223372036854775808 ≤ x ∧ x ≤ 9223372036854775807) (hr1 : -9223372036854775808 ≤ room) (hr2 : room ≤ 9223372036854775807) :
  Calls Try.prog 16 #[.slice A n c, .int .i64 room] w fun e w' => ∃ A' m c', e = .returned (.slice A' m c') ∧ w'.ownsRow w.heap.size 3 1 (.slice A' m c') m (ncells (cutL l room)) ∧ Below w.heap.size w w' := by
 obtain ⟨i0, hi0, hz0, hz1, hz2⟩ := info_parts infoI13
 have hln : l.length = n := by have := hr.1; rw [icells_len] at this; omega
 have HR := Lib.hid (hr.more hB)
 have HL := Lib.hid hln
 have HI := Lib.hid hi
 clear hr hln hi
 go_enter Try.func16, Try.ntmps16
 go_wp2_with fail
 go_loopw [5, 6, 12] (fun ve vl vi wr => ∃ (k : Nat) (E : List Nat) (left : Int) (A' : Option Addr) (c' : Nat), k ≤ n ∧ vi = .int .i64 k ∧ vl = .int .i64 left ∧ ve = .slice A' E.length c' ∧ Hid (cutAt l room k = some (E, left)) ∧ Hid (wr.ownsRow w.heap.size 3 1 (.slice A' E.length c') E.length (ncells E)) ∧ Hid (Below w.heap.size w wr)) (fun _ _ vi _ => n - (RowKit.intOf vi).toNat)
 case atStart => exact ⟨0, [], room, none, 0, Nat.zero_le _, rfl, rfl, rfl, Lib.hid rfl, Lib.hid (World.ownsRow_nil _ _ _ _), Lib.hid (Below.refl _ _)⟩
 case round =>
  obtain ⟨k, E, left, A', c', hk, rfl, rfl, rfl, HS, HO, HB⟩ := hrel
  obtain ⟨l1, l2, l3, l4⟩ := cutAt_left HS.out
  by_cases hlt : k < n
  ·obtain ⟨ad, v, rfl, hab, hv, hc⟩ := (HR.out.below HB.out).at_ hlt
   obtain ⟨x, hx, rfl⟩ : ∃ x, l[k]? = some x ∧ v = .int .i64 x := by
    unfold icells at hv
    rw [List.getElem?_map] at hv
    cases h : l[k]? with
    | none => rw [h] at hv; cases hv
    | some x => rw [h] at hv; exact ⟨x, rfl, by injection hv with hv; exact hv.symm⟩
   have hg : l.getD k 0 = x := by rw [List.getD_eq_getElem?_getD, hx]; rfl
   have hxi := HI.out x (List.mem_of_getElem? hx)
   have hj0 : (0 : Int) ≤ k := by omega
   have hj1 : (k : Int) < n := by omega
   have hm := HO.out.1
   have hsz := HB.out.size
   clear hab hv
   by_cases hbad : x < 0 ∨ room < x
   ·have HE := Lib.hid (cutL_none (cutAt_bad HS.out (by rw [hg]; exact hbad)) (by rw [HL.out]; omega))
    clear hg hx
    by_cases hneg : x < 0
    ·clear hbad
     go_wp2_with fail
     go_ret
     exact ⟨none, 0, 0, rfl, by rw [HE.out]; exact World.ownsRow_nil _ _ _ _, HB.out⟩
    ·have hgt : room < x := by omega
     clear hbad
     go_wp2_with fail
     go_ret
     exact ⟨none, 0, 0, rfl, by rw [HE.out]; exact World.ownsRow_nil _ _ _ _, HB.out⟩
   ·have hneg : ¬ x < 0 := by omega
    have hgt : ¬ room < x := by omega
    by_cases hnew : left < x
    ·have HS2 := Lib.hid (cutAt_new HS.out (by rw [hg]; exact hbad) (by rw [hg]; exact hnew))
     rw [hg] at HS2
     have hb0 : -9223372036854775808 ≤ room - x := by omega
     have hb1 : room - x ≤ 9223372036854775807 := by omega
     have hEl : E.length ≤ 1000000 := by omega
     have HBase := Lib.hid (own_base HO.out)
     clear hg hx hbad
     go_wp2_with (at_builtin; refine wpList_append_any _ rfl (.tmp 27) (.tmp 29) _ rfl w.heap.size 3 i0 _ 1 8 Try.underlying22 hi0 hz0 hz1 hz2 rfl (by omega) _ _ _ rfl (HO.out.alloc _) (wr.heap.size + 1) (some ⟨wr.heap.size, 0, none⟩) 1 1 [.int .i64 (k : Int)] rfl (one_read wr 3 (.int .i64 (k : Int))) (fun u hu => by simp at hu; subst hu; rfl) (by unfold maxLen; omega) (by omega) (by simp; omega) ?_; intro v5 w5 hown5 hg5 hat; obtain ⟨A5, c5, rfl, _, _, _⟩ := own_form hown5; clear hat)
     refine ⟨⟨k + 1, E ++ [k], room - x, A5, c5, by omega, by go_num, rfl, by rw [List.length_append]; rfl, HS2, Lib.hid ?_, Lib.hid ?_⟩, by simp [RowKit.intOf]; omega⟩
     ·rw [List.length_append, ← ncells_snoc]
      exact hown5
     ·exact (HB.out.alloc hsz _).grown hg5 (by simp; omega) HBase.out
    ·have HS2 := Lib.hid (cutAt_old HS.out (by rw [hg]; exact hbad) (by rw [hg]; exact hnew))
     rw [hg] at HS2
     have hb0 : -9223372036854775808 ≤ left - x := by omega
     have hb1 : left - x ≤ 9223372036854775807 := by omega
     clear hg hx hbad
     go_wp2_with fail
     exact ⟨⟨k + 1, E, left - x, A', c', by omega, by go_num, rfl, rfl, HS2, HO, HB⟩, by simp [RowKit.intOf]; omega⟩
  ·obtain rfl : k = n := by omega
   by_cases h0 : k = 0
   ·subst h0
    have HE := Lib.hid (show cutL l room = [] by rw [List.eq_nil_of_length_eq_zero HL.out]; rfl)
    have hE0 : E = [] := List.eq_nil_of_length_eq_zero (by omega)
    subst hE0
    clear hlt l1 l2 l3 l4
    go_wp2_with fail
    go_ret
    exact ⟨A', 0, c', rfl, by rw [HE.out]; exact HO.out, HB.out⟩
   ·have HE := Lib.hid (show cutL l room = E ++ [k] by rw [cutL_some (by rw [HL.out]; exact HS.out) (by intro e; rw [e] at HL; exact h0 HL.out.symm), HL.out])
    have hpos : (0 : Int) < (k : Int) := by omega
    have hEl : E.length ≤ 1000000 := by omega
    have hsz := HB.out.size
    have HBase := Lib.hid (own_base HO.out)
    clear hlt l1 l2 l3 l4 h0
    go_wp2_with (at_builtin; refine wpList_append_any _ rfl (.tmp 39) (.tmp 42) _ rfl w.heap.size 3 i0 _ 1 8 Try.underlying22 hi0 hz0 hz1 hz2 rfl (by omega) _ _ _ rfl (HO.out.alloc _) (wr.heap.size + 1) (some ⟨wr.heap.size, 0, none⟩) 1 1 [.int .i64 (k : Int)] rfl (one_read wr 3 (.int .i64 (k : Int))) (fun u hu => by simp at hu; subst hu; rfl) (by unfold maxLen; omega) (by omega) (by simp; omega) ?_; intro v5 w5 hown5 hg5 hat; obtain ⟨A5, c5, rfl, _, _, _⟩ := own_form hown5; clear hat)
    go_ret
    refine ⟨A5, E.length + 1, c5, rfl, ?_, (HB.out.alloc hsz _).grown hg5 (by simp; omega) HBase.out⟩
    rw [HE.out, ← ncells_snoc]
    exact hown5
end Go.Proofs.Ytgnpldlgdapehaa

