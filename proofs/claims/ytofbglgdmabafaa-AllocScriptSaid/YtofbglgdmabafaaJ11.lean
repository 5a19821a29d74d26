/-
  Rows of numbers of 32 bits: the kit's Own, parts of a slice, slices that came in. Contracts and plain lemmas; no statement is proved here.
-/
import Derived.Test.YtofbglgdmabafaaJ10
import Derived.Deep.CutRange
namespace Go.Proofs.Ytofbglgdmabafaa
open Go.RowKit
open Go.Lib hiding intOf
set_option linter.unusedVariables false
set_option linter.unusedSimpArgs false
attribute [local go_sem ↓] Go.wp_at_zero Go.wp_at_succ

set_option maxRecDepth 100000 in
theorem ownU_any {w : World} {A : Option Addr} {n : Nat} {l : List Nat} (c : Nat) (hr : Reads w w.heap.size 1 A n (ucells l)) (hn : n ≤ 17592186044416) :
    Calls Try.prog 21 #[.slice A n c] w fun e w' => ∃ A' c', e = .returned (.slice A' n c') ∧ w'.ownsRow w.heap.size 27 1 (.slice A' n c') n (ucells l) ∧ Below w.heap.size w w' := by
  obtain ⟨i0, hi0, hz0, hz1, hz2⟩ := info_parts infoU32
  go_enter Try.func21, Try.ntmps21
  go_wp2_with (at_builtin; refine wpList_append_any _ rfl (.tmp 3) (.tmp 4) _ rfl w.heap.size 27 i0 _ 1 4 Try.underlying28 hi0 hz0 hz1 hz2 rfl (by omega) _ 0 [] rfl (World.ownsRow_made w #[] 0 (Nat.le_refl _) (Nat.zero_le _) rfl) (w.heap.size + 1) A n c (ucells l) rfl ((hr.alloc (Nat.le_refl _) _).more (by omega)) (ucells_one _) (by unfold maxLen; omega) (by omega) (by simp) ?_; intro v2 w2 hown2 hg2 hat2)
  go_ret
  have hown3 : w2.ownsRow w.heap.size 27 1 v2 n (ucells l) := by simpa using hown2
  obtain ⟨A', c', rfl, _⟩ := own_form hown3
  exact ⟨A', c', rfl, hown3, ((Below.refl _ _).alloc (Nat.le_refl _) _).grown hg2 (by simp) (by rintro k ⟨⟩; exact Nat.le_refl _)⟩
theorem usliced (A : Option Addr) (n c k : Nat) (z : Int) (hz : z = k) (hk : k ≤ n) : ∃ X, X = (if c = k then A else A.map (·.add k)) ∧ ∀ w : World, (Instr.sliceAt 28 (.slice A n c) (some (.int .i64 z)) none none).run Try.prog w = .ok (.slice X (n - k) (c - k)) w := by
  refine ⟨_, rfl, fun w => ?_⟩
  obtain ⟨i0, hi0, hz0, hz1, hz2⟩ := info_parts infoU32
  have he : Try.prog.elem 28 = 27 := by kernel_rfl
  have hu : Try.prog.underlying 28 = some (.slice (Try.prog.elem 28)) := by rw [he]; exact Try.underlying28
  rw [run_sliceAt_slice w _ _ _ _ _ hu, run_slice_l w _ A n c hu .i64 z (by omega) (by omega), he]
  simp [sizeOf, typeInfo, hi0, hz1, sliced, hz]
theorem utake {w : World} {B n k : Nat} {A : Option Addr} {l : List Nat} (h : Reads w B 1 A n (ucells l)) (hk : k ≤ n) : Reads w B 1 A k (ucells (l.take k)) := by
  have hl := ulen h
  refine ⟨by rw [ucells_length, List.length_take]; omega, fun hn => ?_⟩
  obtain ⟨ad, ha, hb, hc⟩ := h.2 (by omega)
  refine ⟨ad, ha, hb, fun j u hu => hc j u ?_⟩
  have hj : j < k := by
    have := (List.getElem?_eq_some_iff.1 hu).1
    rw [ucells_length, List.length_take] at this
    omega
  rw [← hu]
  unfold ucells
  rw [List.getElem?_map, List.getElem?_map, List.getElem?_take_of_lt hj]
theorem udrop {w : World} {B n c k : Nat} {A : Option Addr} {l : List Nat} (h : Reads w B 1 A n (ucells l)) (hk : k ≤ n) (hc : n ≤ c) : Reads w B 1 (if c = k then A else A.map (·.add k)) (n - k) (ucells (l.drop k)) := by
  have := h.cut hk hc
  simp only [Nat.mul_one] at this
  unfold ucells at this ⊢
  rwa [← List.map_drop] at this
theorem nats_of_ints : ∀ zs : List Int, (∀ n ∈ zs, (Lit.int .u32 n).wf = true) → ∃ l : List Nat, zs.map (Value.int .u32) = ucells l ∧ l.length = zs.length ∧ ∀ n ∈ l, n < 4294967296
  | [], _ => ⟨[], rfl, rfl, by simp⟩
  | n :: zs, h => by
    obtain ⟨l, e, hl, hb⟩ := nats_of_ints zs fun m hm => h m (List.mem_cons_of_mem _ hm)
    have hn := h n List.mem_cons_self
    have hn := lit_u32' hn
    refine ⟨n.toNat :: l, ?_, by simp [hl], ?_⟩
    · simp only [List.map_cons, e, ucells]
      congr 2
      omega
    · intro m hm
      rcases List.mem_cons.1 hm with rfl | hm
      · omega
      · exact hb m hm
theorem row_nats {w : World} {a : Option Addr} {len cap : Nat} {zs : List Int} (h : IsRow .u32 w a len cap zs) : ∃ l : List Nat, Reads w w.heap.size 1 a len (ucells l) ∧ len ≤ cap ∧ cap ≤ maxLen ∧ ∀ n ∈ l, n < 4294967296 := by
  obtain ⟨h1, h2, h3, h4, h5⟩ := h.reads
  obtain ⟨l, e, hl, hb⟩ := nats_of_ints _ h5
  exact ⟨l, by rw [← e]; exact h1, h2, h3, hb⟩
theorem add_zero_addr (ad : Addr) : ad.add 0 = ad := by simp [Addr.add]
end Go.Proofs.Ytofbglgdmabafaa

