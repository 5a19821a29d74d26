/-
  Contracts of what the statements of layer 10 share: lives.
-/
import Derived.Test.YtnpockkhefbjoaaFnImpl
import Derived.Test.YtnpockkhefbjoaaBkOpen
import Derived.Deep.CutRange
namespace Go.Proofs.Ytnpockkhefbjoaa
open Go.RowKit
open Go.Lib hiding intOf
set_option linter.unusedVariables false
set_option linter.unusedSimpArgs false
attribute [local go_sem ↓] Go.wp_at_zero Go.wp_at_succ

set_option maxRecDepth 100000 in
theorem ownU_any {w : World} {A : Option Addr} {n : Nat} {l : List Nat} (c : Nat) (hr : Reads w w.heap.size 1 A n (ucells l)) (hn : n ≤ 17592186044416) :
    Calls Try.prog 21 #[.slice A n c] w fun e w' => ∃ A' c', e = .returned (.slice A' n c') ∧ w'.ownsRow w.heap.size 23 1 (.slice A' n c') n (ucells l) ∧ Below w.heap.size w w' := by
  obtain ⟨i0, hi0, hz0, hz1, hz2⟩ := info_parts infoU32
  go_enter Try.func21, Try.ntmps21
  go_wp2_with (at_builtin; refine wpList_append_any _ rfl (.tmp 3) (.tmp 4) _ rfl w.heap.size 23 i0 _ 1 4 Try.underlying30 hi0 hz0 hz1 hz2 rfl (by omega) _ 0 [] rfl (World.ownsRow_made w #[] 0 (Nat.le_refl _) (Nat.zero_le _) rfl) (w.heap.size + 1) A n c (ucells l) rfl ((hr.alloc (Nat.le_refl _) _).more (by omega)) (ucells_one _) (by unfold maxLen; omega) (by omega) (by simp) ?_; intro v2 w2 hown2 hg2 hat2)
  go_ret
  have hown3 : w2.ownsRow w.heap.size 23 1 v2 n (ucells l) := by simpa using hown2
  obtain ⟨A', c', rfl, _⟩ := own_form hown3
  exact ⟨A', c', rfl, hown3, ((Below.refl _ _).alloc (Nat.le_refl _) _).grown hg2 (by simp) (by rintro k ⟨⟩; exact Nat.le_refl _)⟩
theorem usliced (A : Option Addr) (n c k : Nat) (z : Int) (hz : z = k) (hk : k ≤ n) : ∃ X, X = (if c = k then A else A.map (·.add k)) ∧ ∀ w : World, (Instr.sliceAt 30 (.slice A n c) (some (.int .i64 z)) none none).run Try.prog w = .ok (.slice X (n - k) (c - k)) w := by
  refine ⟨_, rfl, fun w => ?_⟩
  obtain ⟨i0, hi0, hz0, hz1, hz2⟩ := info_parts infoU32
  have he : Try.prog.elem 30 = 23 := by kernel_rfl
  have hu : Try.prog.underlying 30 = some (.slice (Try.prog.elem 30)) := by rw [he]; exact Try.underlying30
  rw [run_sliceAt_slice w _ _ _ _ _ hu, run_slice_l w _ A n c hu .i64 z (by omega) (by omega), he]
  simp [sizeOf, typeInfo, hi0, hz1, sliced, hz]
theorem utake {w : World} {B n k : Nat} {A : Option Addr} {l : List Nat} (h : Reads w B 1 A n (ucells l)) (hk : k ≤ n) : Reads w B 1 A k (ucells (l.take k)) := by
  have hl := ulen h
  refine ⟨by rw [ucells_length, List.length_take]; omega, fun hn => ?_⟩
  obtain ⟨ad, ha, hb, hc⟩ := h.2 (by omega)
  refine ⟨ad, ha, hb, fun j u hu => hc j u ?_⟩
  have hj : j < k := by
    have := (List.getElem?_eq_some_iff.1 hu).1
    rw [ucells_length, List.length_take] at this
    omega
  rw [← hu]
  unfold ucells
  rw [List.getElem?_map, List.getElem?_map, List.getElem?_take_of_lt hj]
theorem udrop {w : World} {B n c k : Nat} {A : Option Addr} {l : List Nat} (h : Reads w B 1 A n (ucells l)) (hk : k ≤ n) (hc : n ≤ c) : Reads w B 1 (if c = k then A else A.map (·.add k)) (n - k) (ucells (l.drop k)) := by
  have := h.cut hk hc
  simp only [Nat.mul_one] at this
  unfold ucells at this ⊢
  rwa [← List.map_drop] at this
theorem ubytes_at {w : World} {B n k : Nat} {A : Option Addr} {l : List UInt8} (h : Reads w B 1 A n (bcells l)) (hk : k < n) : ∃ ad b, A = some ad ∧ l[k]? = some b ∧ w.cell? (ad.add k) = some (.int .u8 (b.toNat : Int)) := by
  obtain ⟨ad, u, ha, hb, hx, hc⟩ := h.at_ hk
  unfold bcells at hx
  rw [List.getElem?_map, Option.map_eq_some_iff] at hx
  obtain ⟨b, hb, rfl⟩ := hx
  exact ⟨ad, b, ha, hb, hc⟩
theorem may128 {n nx tx : Nat} {l : List Nat} (h1 : allU l = true) (h2 : ascU l = true) (h3 : l.length ≤ 26) (h4 : numB n = true) (h5 : nx = 0 ∨ numB nx = true) (h6 : tx ≤ 4611686018427387904) : mayP10 128 n nx tx l = true := by
  unfold mayP10
  rw [show goodSize 128 = true from by decide, h1, h2, h4, show mostN 128 = 26 from by decide, decide_eq_true h3, decide_eq_true h6]
  rcases h5 with h5 | h5
  · rw [decide_eq_true h5]; rfl
  · rw [h5]; simp
theorem no128 {n nx tx : Nat} {l : List Nat} (h : ascU l = false) : mayP10 128 n nx tx l = false := by
  unfold mayP10
  rw [h]
  simp
theorem ucells_set (l : List Nat) (i a : Nat) : (ucells l).set i (.int .u32 (a : Int)) = ucells (l.set i a) := by unfold ucells; rw [List.map_set]
/-- What two numbers laid next to each other read. -/
theorem reads_two (w : World) (t : TypeId) (a b : Nat) : Reads (w.alloc (.cells #[.int .u32 a, .int .u32 b] t)) (w.alloc (.cells #[.int .u32 a, .int .u32 b] t)).heap.size 1 (some ⟨w.heap.size, 0, none⟩) 2 (ucells [a, b]) := by
  rw [World.size_alloc]
  exact reads_own (n := 2) (Blk.new w t #[.int .u32 a, .int .u32 b]) rfl
theorem nats_of_ints : ∀ zs : List Int, (∀ n ∈ zs, (Lit.int .u32 n).wf = true) → ∃ l : List Nat, zs.map (Value.int .u32) = ucells l ∧ l.length = zs.length ∧ ∀ n ∈ l, n < 4294967296
  | [], _ => ⟨[], rfl, rfl, by simp⟩
  | n :: zs, h => by
    obtain ⟨l, e, hl, hb⟩ := nats_of_ints zs fun m hm => h m (List.mem_cons_of_mem _ hm)
    have hn := h n List.mem_cons_self
    have hn := lit_u32' hn
    refine ⟨n.toNat :: l, ?_, by simp [hl], ?_⟩
    · simp only [List.map_cons, e, ucells]
      congr 2
      omega
    · intro m hm
      rcases List.mem_cons.1 hm with rfl | hm
      · omega
      · exact hb m hm
theorem row_nats {w : World} {a : Option Addr} {len cap : Nat} {zs : List Int} (h : IsRow .u32 w a len cap zs) : ∃ l : List Nat, Reads w w.heap.size 1 a len (ucells l) ∧ len ≤ cap ∧ cap ≤ maxLen ∧ ∀ n ∈ l, n < 4294967296 := by
  obtain ⟨h1, h2, h3, h4, h5⟩ := h.reads
  obtain ⟨l, e, hl, hb⟩ := nats_of_ints _ h5
  exact ⟨l, by rw [← e]; exact h1, h2, h3, hb⟩
theorem ofpost10_any {o : Option (List Nat)} {lk : Nat} {w : World} {e : Ending} {w' : World} (h : OfPost10 o lk w e w') : ∃ A n c, e = .returned (.tuple #[.slice A n c, .int .u32 ((if o.isSome then lk else 0 : Nat) : Int), .int .i64 (if o.isSome then 0 else 4)]) ∧ Reads w' w'.heap.size 1 A n (ucells (o.getD [])) ∧ Below w.heap.size w w' := by
  cases o with
  | none => obtain ⟨rfl, hb⟩ := h; exact ⟨none, 0, 0, rfl, Reads.none_, hb⟩
  | some l => obtain ⟨A, n, c, rfl, hr, _, _, hb⟩ := h; exact ⟨A, n, c, rfl, hr, hb⟩
set_option maxRecDepth 100000 in
set_option maxHeartbeats 3200000 in
theorem lives10_any (w : World) : Calls Try.prog 7 #[] w fun e w' => e = .returned (.bool true) ∧ Below w.heap.size w w' := by
  have HB := Lib.hid (Below.refl w.heap.size w)
  have I1 : ∀ w : World, Calls Try.prog 13 #[.int .i64 128] w fun e w' => e = .returned (.int .i64 26) ∧ Below w.heap.size w w' := fun w => fmost_any 128 w
  have I2 : ∀ w : World, Calls Try.prog 12 #[.int .i64 128, .int .i64 27] w fun e w' => e = .returned (.int .i64 2) ∧ Below w.heap.size w w' := fun w => fneed_any 128 27 w (by decide)
  go_enter Try.func7, Try.ntmps7
  go_wp2_with fail
  refine (I1 _).mono ?_
  rintro e w2 ⟨rfl, hb⟩
  replace HB := Lib.hid (HB.out.trans (hb.mono HB.out.size))
  clear hb I1
  go_wp2_with fail
  refine (I2 _).mono ?_
  rintro e w3 ⟨rfl, hb⟩
  replace HB := Lib.hid (HB.out.trans (hb.mono HB.out.size))
  clear hb I2
  go_wp2_with fail
  refine (frises_any (some ⟨w3.heap.size, 0, none⟩) 2 2 [1, 2] _ (reads_two w3 _ 1 2) (by decide)).mono ?_
  rintro e w4 ⟨rfl, hb⟩
  replace HB := Lib.hid ((HB.out.alloc HB.out.size _).trans (hb.mono (HB.out.alloc HB.out.size _).size))
  clear hb
  rw [show ascU [1, 2] = true from rfl]
  go_wp2_with fail
  go_ret
  exact ⟨rfl, HB.out⟩
end Go.Proofs.Ytnpockkhefbjoaa
