/-
  Contracts over lists of ints: the kit's Own and Same; parts of slices of ints.
-/
import Derived.Test.YtgnpldlgdapehaaBuCode
import Derived.Test.YtgnpldlgdapehaaKitLaw
import Derived.Deep.DrawnRows
import Derived.Lib.SliceRun
namespace Go.Proofs.Ytgnpldlgdapehaa
open Go.RowKit
set_option linter.unusedVariables false
set_option linter.unusedSimpArgs false
attribute [local go_sem ↓] Go.wp_at_zero Go.wp_at_succ

theorem icells_one (l : List Int) : ∀ u ∈ icells l, u.oneCell' = true := by
  intro u hu
  obtain ⟨x, _, rfl⟩ := List.mem_map.1 hu
  rfl
theorem icells_of (l : List Nat) : ncells l = icells (l.map fun (n : Nat) => (n : Int)) := by simp [ncells, icells]
theorem iread_len {w : World} {B n : Nat} {A : Option Addr} {l : List Int} (h : Reads w B 1 A n (icells l)) : l.length = n := by
  have := h.1
  rw [icells_len] at this
  omega
theorem iread_at {w : World} {B n k : Nat} {A : Option Addr} {l : List Int} (h : Reads w B 1 A n (icells l)) (hk : k < n) : ∃ ad x, A = some ad ∧ ad.block < B ∧ l[k]? = some x ∧ w.cell? (ad.add k) = some (.int .i64 x) := by
  obtain ⟨ad, u, ha, hb, hx, hc⟩ := h.at_ hk
  unfold icells at hx
  rw [List.getElem?_map, Option.map_eq_some_iff] at hx
  obtain ⟨x, hx, rfl⟩ := hx
  exact ⟨ad, x, ha, hb, hx, hc⟩
theorem itake {w : World} {B n k : Nat} {A : Option Addr} {l : List Int} (h : Reads w B 1 A n (icells l)) (hk : k ≤ n) : Reads w B 1 A k (icells (l.take k)) := by
  have hl := iread_len h
  refine ⟨by rw [icells_len, List.length_take]; omega, fun hn => ?_⟩
  obtain ⟨ad, ha, hb, hc⟩ := h.2 (by omega)
  refine ⟨ad, ha, hb, fun j u hu => hc j u ?_⟩
  have hj : j < k := by
    have := (List.getElem?_eq_some_iff.1 hu).1
    rw [icells_len, List.length_take] at this
    omega
  unfold icells at hu ⊢
  rw [List.map_take, List.getElem?_take, if_pos hj] at hu
  exact hu
theorem idrop {w : World} {B n c k : Nat} {A : Option Addr} {l : List Int} (h : Reads w B 1 A n (icells l)) (hk : k ≤ n) (hc : n ≤ c) : Reads w B 1 (if c = k then A else A.map (·.add k)) (n - k) (icells (l.drop k)) := by
  have := h.cut hk hc
  simp only [Nat.mul_one] at this
  unfold icells at this ⊢
  rwa [← List.map_drop] at this
/-- l[:j] and l[i:j] of a slice of ints. -/
theorem ihead (A : Option Addr) (n c j : Nat) (z : Int) (hz : z = j) (hj : j ≤ n) (hc : n ≤ c) : ∀ w : World, (Instr.sliceAt 22 (.slice A n c) none (some (.int .i64 z)) none).run Try.prog w = .ok (.slice A j c) w := by
  intro w
  obtain ⟨i0, hi0, hz0, hz1, hz2⟩ := info_parts infoI13
  have he : Try.prog.elem 22 = 3 := by kernel_rfl
  have hu : Try.prog.underlying 22 = some (.slice (Try.prog.elem 22)) := by rw [he]; exact Try.underlying22
  rw [run_sliceAt_slice w _ _ _ _ _ hu, run_slice_h w _ A n c hu .i64 z (by omega) (by omega), he]
  simp [sizeOf, typeInfo, hi0, hz1, sliced, hz]
  intro _
  cases A <;> simp [Addr.add]
theorem imid (A : Option Addr) (n c i j : Nat) (zi zj : Int) (hzi : zi = i) (hzj : zj = j) (hi : i ≤ j) (hj : j ≤ c) : ∃ X, X = (if c = i then A else A.map (·.add i)) ∧ ∀ w : World, (Instr.sliceAt 22 (.slice A n c) (some (.int .i64 zi)) (some (.int .i64 zj)) none).run Try.prog w = .ok (.slice X (j - i) (c - i)) w := by
  refine ⟨_, rfl, fun w => ?_⟩
  obtain ⟨i0, hi0, hz0, hz1, hz2⟩ := info_parts infoI13
  have he : Try.prog.elem 22 = 3 := by kernel_rfl
  have hu : Try.prog.underlying 22 = some (.slice (Try.prog.elem 22)) := by rw [he]; exact Try.underlying22
  rw [run_sliceAt_slice w _ _ _ _ _ hu, run_slice_lh w _ A n c hu .i64 .i64 zi zj (by omega) (by omega) (by omega), he]
  simp [sizeOf, typeInfo, hi0, hz1, sliced, hzi, hzj]
theorem own13_any (A : Option Addr) (n c : Nat) (l : List Int) (w : World) {B : Nat} (hB : B ≤ w.heap.size) (hr : Reads w B 1 A n (icells l)) (hn : n ≤ 1000000) :
    Calls Try.prog 17 #[.slice A n c] w fun e w' => ∃ A' c', e = .returned (.slice A' n c') ∧ w'.ownsRow w.heap.size 3 1 (.slice A' n c') n (icells l) ∧ n ≤ c' ∧ Below w.heap.size w w' := by
  obtain ⟨i0, hi0, hz0, hz1, hz2⟩ := info_parts infoI13
  go_enter Try.func17, Try.ntmps17
  go_wp2_with (at_builtin; refine wpList_append_any _ rfl (.tmp 3) (.tmp 4) _ rfl w.heap.size 3 i0 _ 1 8 Try.underlying22 hi0 hz0 hz1 hz2 rfl (by omega) _ 0 [] rfl (World.ownsRow_made w #[] 0 (Nat.le_refl _) (Nat.zero_le _) rfl) (w.heap.size + 1) A n c (icells l) rfl ((hr.alloc hB _).more (by omega)) (icells_one _) (by unfold maxLen; omega) (by omega) (by simp) ?_; intro v2 w2 hown2 hg2 hat2)
  go_ret
  have hown3 : w2.ownsRow w.heap.size 3 1 v2 n (icells l) := by simpa using hown2
  obtain ⟨A', c', rfl, hc, _⟩ := own_form hown3
  exact ⟨A', c', rfl, hown3, hc, ((Below.refl _ _).alloc (Nat.le_refl _) _).grown hg2 (by simp) (by rintro k ⟨⟩; exact Nat.le_refl _)⟩
theorem i64_noteq (a : Int) (w : World) : (binOp .neq 3 (.int .i64 a) (.int .i64 a)).run Try.prog w = .ok (.bool false) w := by
  simp [go_sem]
set_option maxRecDepth 300000 in
set_option maxHeartbeats 3200000 in
theorem sameI_yes (A : Option Addr) (n c : Nat) (A' : Option Addr) (c' : Nat) (l : List Int) (w : World) {B B' : Nat} (hr : Reads w B 1 A n (icells l)) (hr' : Reads w B' 1 A' n (icells l)) (hn : n ≤ 1000000) :
    Calls Try.prog 15 #[.slice A n c, .slice A' n c'] w fun e w' => e = .returned (.bool true) ∧ ∃ q, w' = w.drewN q := by
  have HR := Lib.hid hr
  have HR' := Lib.hid hr'
  clear hr hr'
  go_enter Try.func15, Try.ntmps15
  go_wp2_with fail
  go_loopw [5] (fun i wr => ∃ k : Nat, k ≤ n ∧ i = .int .i64 k ∧ ∃ q, wr = w.drewN q) (fun i _ => n - (intOf i).toNat)
  case atStart => exact ⟨0, Nat.zero_le _, rfl, 0, rfl⟩
  case round =>
    obtain ⟨k, hk, rfl, q, hq⟩ := hrel
    by_cases hlt : k < n
    · obtain ⟨ad, x, rfl, _, hx, hc⟩ := iread_at HR.out hlt
      obtain ⟨ad', x', rfl, _, hx', hc'⟩ := iread_at HR'.out hlt
      rw [hx] at hx'
      injection hx' with hx'
      subst hx'
      have hc : wr.cell? (ad.add k) = some (.int .i64 x) := by rw [hq]; exact hc
      have hc' : wr.cell? (ad'.add k) = some (.int .i64 x) := by rw [hq]; exact hc'
      have hk0 : (0 : Int) ≤ k := by omega
      have hk1 : (k : Int) < n := by omega
      have HQ := Lib.hid hq
      have he := fun w => i64_noteq x w
      clear hq hx
      go_wp2_with fail
      go_quiet (fail)
      go_wp2_with fail
      go_roundw
      case rel =>
        have hqq : ∃ q', wr.drewN nq = w.drewN q' := ⟨q + nq, by rw [HQ.out, World.drewN_drewN]⟩
        first
          | exact ⟨k + 1, by omega, by go_num, hqq⟩
          | ((repeat apply Exists.intro); exact ⟨⟨k + 1, by omega, by go_num, hqq⟩, rfl⟩)
      case measure => simp [intOf]; omega
    · obtain rfl : k = n := by omega
      clear hlt hk
      have HQ := Lib.hid hq
      clear hq
      go_wp2_with fail
      go_ret
      exact ⟨rfl, q, HQ.out⟩
end Go.Proofs.Ytgnpldlgdapehaa
