/-
  Contracts of the reference's Leaves of layer 13, and of the statements' flat. (Written by wip/tools/gen_bus.py.)
-/
import Derived.Test.YtgnpldlgdapehaaJ28
import Derived.Test.YtgnpldlgdapehaaJ29
import Derived.Test.YtgnpldlgdapehaaJ25
set_option linter.unusedVariables false
set_option linter.unusedSimpArgs false
namespace Go.Proofs.Ytgnpldlgdapehaa
open Go.RowKit
attribute [local go_sem ↓] Go.wp_at_zero Go.wp_at_succ

def endsI (P : List (List It)) : List Nat := (List.range P.length).map fun i => ((P.take (i + 1)).flatten).length
theorem endsI_take {P : List (List It)} {k : Nat} (h : k < P.length) : endsI (P.take (k + 1)) = endsI (P.take k) ++ [((P.take (k + 1)).flatten).length] := by
 unfold endsI
 rw [List.length_take, List.length_take, Nat.min_eq_left (by omega), Nat.min_eq_left (by omega), List.range_succ, List.map_append]
 congr 1
 ·refine List.map_congr_left fun i hi => ?_
  have := List.mem_range.1 hi
  rw [List.take_take, List.take_take, Nat.min_eq_left (by omega), Nat.min_eq_left (by omega)]
 ·simp [List.take_take]
theorem flatI_take {P : List (List It)} {k : Nat} {p : List It} (h : P[k]? = some p) : (P.take (k + 1)).flatten = (P.take k).flatten ++ p := by
 obtain ⟨hk, rfl⟩ := List.getElem?_eq_some_iff.1 h
 rw [List.take_succ_eq_append_getElem hk, List.flatten_append]
 simp
theorem flatI_le {P : List (List It)} {k : Nat} : (P.take k).flatten.length ≤ P.flatten.length := by
 conv => rhs; rw [← List.take_append_drop k P, List.flatten_append, List.length_append]
 omega
set_option maxRecDepth 100000 in
set_option maxHeartbeats 12800000 in
theorem flatI_any (A : Option Addr) (n c : Nat) (vs : List Value) (P : List (List It)) (w : World) (hr : Reads w w.heap.size 1 A n vs) (hp : NsRead 5 itc w vs P) (hn : n ≤ 1000000) (hf : P.flatten.length ≤ 1000000) :
  Calls Try.prog 13 #[.slice A n c] w fun e w' => ∃ A1 n1 c1 A2 n2 c2, e = .returned (.tuple #[.slice A1 n1 c1, .slice A2 n2 c2]) ∧ Reads w' w'.heap.size 5 A1 n1 (itc P.flatten) ∧ Reads w' w'.heap.size 1 A2 n2 (ncells (endsI P)) ∧ n1 ≤ c1 ∧ Below w.heap.size w w' := by
 obtain ⟨i0, hi0, hz0, hz1, hz2⟩ := info_parts infoI13
 obtain ⟨k0, hk0, hx0, hx1, hx2⟩ := info_parts infoBI
 have HR := Lib.hid hr
 have HP := Lib.hid hp
 have HN := Lib.hid (hp.len hr)
 have HF := Lib.hid hf
 clear hr hp hf
 go_enter Try.func13, Try.ntmps13
 go_wp2_with fail
 go_loopw [4, 5, 6] (fun vo ve vi wr => ∃ (j m : Nat) (A1 : Option Addr) (c1 : Nat) (A2 : Option Addr) (c2 : Nat), j ≤ n ∧ vi = .int .i64 j ∧ vo = .slice A1 m c1 ∧ ve = .slice A2 j c2 ∧ Hid (m = (P.take j).flatten.length) ∧ Hid (wr.ownsRow w.heap.size 46 5 (.slice A1 m c1) m (itc (P.take j).flatten)) ∧ Hid (wr.ownsRow w.heap.size 3 1 (.slice A2 j c2) j (ncells (endsI (P.take j)))) ∧ Hid (Below w.heap.size w wr)) (fun _ _ vi _ => n - (RowKit.intOf vi).toNat)
 case atStart => exact ⟨0, 0, none, 0, none, 0, Nat.zero_le _, rfl, rfl, rfl, Lib.hid (by simp), Lib.hid (World.ownsRow_nil _ _ _ _), Lib.hid (World.ownsRow_nil _ _ _ _), Lib.hid (Below.refl _ _)⟩
 case round =>
  obtain ⟨j, m, A1, c1, A2, c2, hj, rfl, rfl, rfl, HM, H1, H2, HBr⟩ := hrel
  by_cases hlt : j < n
  ·obtain ⟨ad, A', c', p, rfl, _, hx, hc, hrp, _⟩ := (HP.out.below HBr.out).at_ (HR.out.below HBr.out) hlt
   have HFt := Lib.hid (flatI_take hx)
   have HEt := Lib.hid (endsI_take (P := P) (k := j) (by rw [HN.out]; exact hlt))
   have hfl := flatI_le (P := P) (k := j + 1)
   rw [HFt.out, List.length_append, ← HM.out] at hfl
   have hf9 := HF.out
   have hmp : m + p.length ≤ 1000000 := by omega
   have HRp := Lib.hid hrp
   have hsz := HBr.out.size
   have HB1 := Lib.hid (own_base H1.out)
   have HB2 := Lib.hid (own_base H2.out)
   have e1 : (0 : Int) ≤ j := by omega
   have e2 : (j : Int) < n := by omega
   have HTy := Lib.hid (show ∀ b, (Value.slice A2 j c2).ownBlock = some b → (Value.slice A1 m c1).ownBlock ≠ some b from fun b hb => own_ne_own H2.out H1.out (by decide) hb)
   have HX2 := Lib.hid H2.out
   clear hx hrp hfl hf9
   go_wp2_with (at_builtin; first | (refine wpList_append_any _ rfl (.tmp 13) (.tmp 17) _ rfl w.heap.size 46 k0 _ 5 56 Try.underlying23 hk0 hx0 hx1 hx2 rfl (by omega) _ _ _ rfl H1.out wr.heap.size A' p.length c' _ rfl HRp.out (itc_oneB _) (by unfold maxLen; omega) (by omega) hsz ?_; intro v5 w5 hown5 hg5 hat5; obtain ⟨A5, c5, rfl, _, _, _⟩ := own_form hown5; clear hat5; have HO5 := Lib.hid hown5; have HB5 := Lib.hid (HBr.out.grown hg5 hsz HB1.out); have H25 := Lib.hid (HX2.out.kept hg5 (by rcases hb : (Value.slice A2 j c2).ownBlock with _ | b; exact .inl rfl; exact .inr fun h => HTy.out b hb h.symm)); have hz5 := hg5.size; clear hown5 hg5) | (refine wpList_append_any _ rfl (.tmp 19) (.tmp 22) _ rfl w.heap.size 3 i0 _ 1 8 Try.underlying22 hi0 hz0 hz1 hz2 rfl (by omega) _ _ _ rfl (H25.out.alloc _) (w5.heap.size + 1) (some ⟨w5.heap.size, 0, none⟩) 1 1 [.int .i64 ((m + p.length : Nat) : Int)] rfl (one_read w5 3 (.int .i64 ((m + p.length : Nat) : Int))) (fun u hu => by simp at hu; subst hu; rfl) (by unfold maxLen; omega) (by omega) (by simp; omega) ?_; intro v6 w6 hown6 hg6 hat6; obtain ⟨A6, c6, rfl, _, _, _⟩ := own_form hown6; clear hat6; have HO6 := Lib.hid hown6; have HG6 := Lib.hid hg6; clear hown6 hg6))
   have H16 := Lib.hid ((HO5.out.alloc (.cells #[.int .i64 ((m + p.length : Nat) : Int)] 3)).kept HG6.out (by
    rcases hb : (Value.slice A5 (m + p.length) c5).ownBlock with _ | b
    ·exact .inl rfl
    ·exact .inr fun h => own_ne_own (HO5.out.alloc (.cells #[.int .i64 ((m + p.length : Nat) : Int)] 3)) (H25.out.alloc (.cells #[.int .i64 ((m + p.length : Nat) : Int)] 3)) (by decide) hb h.symm))
   have HB6 := Lib.hid ((HB5.out.alloc HB5.out.size (.cells #[.int .i64 ((m + p.length : Nat) : Int)] 3)).grown HG6.out (by have := HB5.out.size; simp; omega) HB2.out)
   have HMn := Lib.hid (show m + p.length = (P.take (j + 1)).flatten.length by rw [HFt.out, List.length_append, ← HM.out])
   refine ⟨⟨j + 1, m + p.length, A5, c5, A6, c6, by omega, by go_num, rfl, rfl, HMn, Lib.hid ?_, Lib.hid ?_, HB6⟩, by simp [RowKit.intOf]; omega⟩
   ·rw [HFt.out, itc_append]
    exact H16.out
   ·rw [HEt.out, ← HMn.out, ← ncells_snoc]
    exact HO6.out
  ·obtain rfl : j = n := by omega
   have e2 : ¬ (j : Int) < j := by omega
   have hte : P.take j = P := List.take_of_length_le (by rw [HN.out]; exact Nat.le_refl _)
   rw [hte] at H1 H2
   obtain ⟨_, _, hv, hcc, _⟩ := own_form H1.out
   cases hv
   clear hlt hj hte
   go_wp2_with fail
   go_ret2
   first
    | exact ⟨A1, m, c1, A2, j, c2, rfl, Reads.of_own H1.out, Reads.of_own H2.out, hcc, HBr.out⟩
    | exact ⟨A1, m, c1, A2, j, ⟨c2, rfl⟩, Reads.of_own H1.out, Reads.of_own H2.out, hcc, HBr.out⟩
end Go.Proofs.Ytgnpldlgdapehaa

