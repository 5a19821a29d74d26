/-
  Texts that the main proof rests on, put together: BkOpen, FnRow, Ref11T. No statement is proved here.
-/
import Derived.Test.YtabhhccdbfjigaaJ16
import Derived.Deep.Slices
import Derived.ChangeSame
import Derived.SizedLaws
import Derived.Test.YtabhhccdbfjigaaJ21
import Derived.Deep.CutRange
import Derived.Test.YtabhhccdbfjigaaJ24
import Derived.Test.YtabhhccdbfjigaaJ20
import Derived.Test.YtabhhccdbfjigaaJ7
namespace Go.Proofs.Ytabhhccdbfjigaa
open Go.RowKit Go.ChangeShapes Go.WideShapes
open Go.Deep (open_slice choose_lt)
set_option linter.unusedVariables false
set_option linter.unusedSimpArgs false

instance : Inhabited Bk := ⟨⟨⟨#[]⟩, 0, 0⟩⟩
/-- What is known of a bucket that came in. -/
def BkOk (b : Bk) : Prop := b.nm.size ≤ maxLen ∧ b.rt < 4294967296 ∧ -9223372036854775808 ≤ b.ks ∧ b.ks ≤ 9223372036854775807
/-- What is known of a slice of buckets that came in. -/
def Bks (w : World) (B : Nat) (A : Option Addr) (n c : Nat) (l : List Bk) : Prop := Reads w B 3 A n (bkc l) ∧ n ≤ c ∧ c ≤ maxLen ∧ n ≤ 4398046511104 ∧ ∀ b, b ∈ l → BkOk b ∧ b.nm.size ≤ 140737488351232
theorem lit_i64' {z : Int} (h : (Lit.int .i64 z).wf = true) : -9223372036854775808 ≤ z ∧ z ≤ 9223372036854775807 := by
  simp [Lit.wf, IntKind.min, IntKind.max, IntKind.signed, IntKind.bits] at h
  omega
theorem lit_u32' {z : Int} (h : (Lit.int .u32 z).wf = true) : 0 ≤ z ∧ z ≤ 4294967295 := by
  simp [Lit.wf, IntKind.min, IntKind.max, IntKind.signed, IntKind.bits] at h
  omega
section
variable {H : Type} {enc : TypeId × Value → H} {w : World} {base : Nat} {spare : Nat → Bool} {held : Bool}
theorem bks_weights {e : TypeId} {m : Nat} : ∀ {l : List (DataW H)} {d : DataW H}, d ∈ l → m ∈ d.weights Try.prog e → m ∈ DataW.weightsAll Try.prog e l
  | d0 :: l, d, hd, hm => by
    simp only [DataW.weightsAll, List.mem_append]
    rcases List.mem_cons.1 hd with rfl | hd
    · exact .inl hm
    · exact .inr (bks_weights hd hm)
end
end Go.Proofs.Ytabhhccdbfjigaa
namespace Go.Proofs.Ytabhhccdbfjigaa
open Go.RowKit
open Go.Lib hiding intOf
set_option linter.unusedVariables false
set_option linter.unusedSimpArgs false
attribute [local go_sem ↓] Go.wp_at_zero Go.wp_at_succ

theorem usliced (A : Option Addr) (n c k : Nat) (z : Int) (hz : z = k) (hk : k ≤ n) : ∃ X, X = (if c = k then A else A.map (·.add k)) ∧ ∀ w : World, (Instr.sliceAt 32 (.slice A n c) (some (.int .i64 z)) none none).run Try.prog w = .ok (.slice X (n - k) (c - k)) w := by
  refine ⟨_, rfl, fun w => ?_⟩
  obtain ⟨i0, hi0, hz0, hz1, hz2⟩ := info_parts infoU32
  have he : Try.prog.elem 32 = 29 := by kernel_rfl
  have hu : Try.prog.underlying 32 = some (.slice (Try.prog.elem 32)) := by rw [he]; exact Try.underlying32
  rw [run_sliceAt_slice w _ _ _ _ _ hu, run_slice_l w _ A n c hu .i64 z (by omega) (by omega), he]
  simp [sizeOf, typeInfo, hi0, hz1, sliced, hz]
theorem utake {w : World} {B n k : Nat} {A : Option Addr} {l : List Nat} (h : Reads w B 1 A n (ucells l)) (hk : k ≤ n) : Reads w B 1 A k (ucells (l.take k)) := by
  have hl := ulen h
  refine ⟨by rw [ucells_length, List.length_take]; omega, fun hn => ?_⟩
  obtain ⟨ad, ha, hb, hc⟩ := h.2 (by omega)
  refine ⟨ad, ha, hb, fun j u hu => hc j u ?_⟩
  have hj : j < k := by
    have := (List.getElem?_eq_some_iff.1 hu).1
    rw [ucells_length, List.length_take] at this
    omega
  rw [← hu]
  unfold ucells
  rw [List.getElem?_map, List.getElem?_map, List.getElem?_take_of_lt hj]
theorem udrop {w : World} {B n c k : Nat} {A : Option Addr} {l : List Nat} (h : Reads w B 1 A n (ucells l)) (hk : k ≤ n) (hc : n ≤ c) : Reads w B 1 (if c = k then A else A.map (·.add k)) (n - k) (ucells (l.drop k)) := by
  have := h.cut hk hc
  simp only [Nat.mul_one] at this
  unfold ucells at this ⊢
  rwa [← List.map_drop] at this
theorem ubytes_at {w : World} {B n k : Nat} {A : Option Addr} {l : List UInt8} (h : Reads w B 1 A n (bcells l)) (hk : k < n) : ∃ ad b, A = some ad ∧ l[k]? = some b ∧ w.cell? (ad.add k) = some (.int .u8 (b.toNat : Int)) := by
  obtain ⟨ad, u, ha, hb, hx, hc⟩ := h.at_ hk
  unfold bcells at hx
  rw [List.getElem?_map, Option.map_eq_some_iff] at hx
  obtain ⟨b, hb, rfl⟩ := hx
  exact ⟨ad, b, ha, hb, hc⟩
theorem ucells_set (l : List Nat) (i a : Nat) : (ucells l).set i (.int .u32 (a : Int)) = ucells (l.set i a) := by unfold ucells; rw [List.map_set]
/-- What two numbers laid next to each other read. -/
theorem reads_two (w : World) (t : TypeId) (a b : Nat) : Reads (w.alloc (.cells #[.int .u32 a, .int .u32 b] t)) (w.alloc (.cells #[.int .u32 a, .int .u32 b] t)).heap.size 1 (some ⟨w.heap.size, 0, none⟩) 2 (ucells [a, b]) := by
  rw [World.size_alloc]
  exact reads_own (n := 2) (Blk.new w t #[.int .u32 a, .int .u32 b]) rfl
theorem nats_of_ints : ∀ zs : List Int, (∀ n ∈ zs, (Lit.int .u32 n).wf = true) → ∃ l : List Nat, zs.map (Value.int .u32) = ucells l ∧ l.length = zs.length ∧ ∀ n ∈ l, n < 4294967296
  | [], _ => ⟨[], rfl, rfl, by simp⟩
  | n :: zs, h => by
    obtain ⟨l, e, hl, hb⟩ := nats_of_ints zs fun m hm => h m (List.mem_cons_of_mem _ hm)
    have hn := h n List.mem_cons_self
    have hn := lit_u32' hn
    refine ⟨n.toNat :: l, ?_, by simp [hl], ?_⟩
    · simp only [List.map_cons, e, ucells]
      congr 2
      omega
    · intro m hm
      rcases List.mem_cons.1 hm with rfl | hm
      · omega
      · exact hb m hm
theorem row_nats {w : World} {a : Option Addr} {len cap : Nat} {zs : List Int} (h : IsRow .u32 w a len cap zs) : ∃ l : List Nat, Reads w w.heap.size 1 a len (ucells l) ∧ len ≤ cap ∧ cap ≤ maxLen ∧ ∀ n ∈ l, n < 4294967296 := by
  obtain ⟨h1, h2, h3, h4, h5⟩ := h.reads
  obtain ⟨l, e, hl, hb⟩ := nats_of_ints _ h5
  exact ⟨l, by rw [← e]; exact h1, h2, h3, hb⟩
theorem ureads_cell {w : World} {B n k : Nat} {ad : Addr} {l : List Nat} (h : Reads w B 1 (some ad) n (ucells l)) (hk : k < n) : w.cell? (ad.add k) = some (.int .u32 (nthU l k)) := by
  obtain ⟨ad', ha, _, hc⟩ := ureads_at h hk
  injection ha with ha
  subst ha
  exact hc
theorem add_zero_addr (ad : Addr) : ad.add 0 = ad := by simp [Addr.add]
end Go.Proofs.Ytabhhccdbfjigaa
namespace Go.Proofs.Ytabhhccdbfjigaa
open Go.RowKit
open Go.Lib hiding intOf
set_option linter.unusedVariables false
set_option linter.unusedSimpArgs false
attribute [local go_sem ↓] Go.wp_at_zero Go.wp_at_succ

theorem listsL_no {size : Int} {tx : Nat} {ps ns : List Nat} (h : goodSize size = false ∨ (allU ns && ascU ns) = false ∨ ps.length < needF size ns.length ∨ fineL ps = false ∨ 4611686018427387904 < tx) : listsL size tx ps ns = none := by
  unfold listsL
  rw [if_neg]
  simp only [Bool.and_eq_true, decide_eq_true_eq]
  rintro ⟨h1, h2, h4, h5, h6⟩
  rcases h with h | h | h | h | h
  · rw [h1] at h; cases h
  · rw [h2.1, h2.2] at h; cases h
  · omega
  · rw [h5] at h; cases h
  · omega
theorem listsL_yes {size : Int} {tx : Nat} {ps ns : List Nat} (h1 : goodSize size = true) (h2 : (allU ns && ascU ns) = true) (h4 : needF size ns.length ≤ ps.length) (h5 : fineL ps = true) (h6 : tx ≤ 4611686018427387904) : listsL size tx ps ns = some ((List.range ps.length).map (liPg size.toNat tx ps ns)) := by
  obtain ⟨z, rfl, _⟩ := good_nat h1
  unfold listsL
  rw [h1, h2, decide_eq_true h4, h5, decide_eq_true h6]
  rfl

set_option maxRecDepth 100000 in
set_option maxHeartbeats 12800000 in
theorem rlists_0 (size : Int) (tx : Nat) (A : Option Addr) (n c : Nat) (ps : List Nat) (A2 : Option Addr) (n2 c2 : Nat) (ns : List Nat) (w : World) (hr : Reads w w.heap.size 1 A n (ucells ps)) (hn : n ≤ 1000000) (hr2 : Reads w w.heap.size 1 A2 n2 (ucells ns)) (hn2 : n2 ≤ 1000000) (hg : goodSize size = false) : Calls Try.prog 19 #[.int .i64 size, .int .u64 tx, .slice A n c, .slice A2 n2 c2] w (PgsPost (listsL size tx ps ns) w) := by
  rw [listsL_no (size := size) (tx := tx) (ps := ps) (ns := ns) (.inl hg)]
  have HG := fun w => rgood_any size w
  rw [hg] at HG
  clear hg
  have HR := Lib.hid hr
  have HR2 := Lib.hid hr2
  go_enter Try.func19, Try.ntmps19
  go_wp2_with (go_at_call 49; refine (HG _).mono ?_; rintro e w' ⟨rfl, rfl⟩)
  go_ret2
  exact ⟨rfl, (Below.refl _ _)⟩
set_option maxRecDepth 100000 in
set_option maxHeartbeats 12800000 in
theorem rlists_1 (size : Int) (tx : Nat) (A : Option Addr) (n c : Nat) (ps : List Nat) (A2 : Option Addr) (n2 c2 : Nat) (ns : List Nat) (w : World) (hr : Reads w w.heap.size 1 A n (ucells ps)) (hn : n ≤ 1000000) (hr2 : Reads w w.heap.size 1 A2 n2 (ucells ns)) (hn2 : n2 ≤ 1000000) (hg : goodSize size = true) (h1 : (allU ns && ascU ns) = false) : Calls Try.prog 19 #[.int .i64 size, .int .u64 tx, .slice A n c, .slice A2 n2 c2] w (PgsPost (listsL size tx ps ns) w) := by
  rw [listsL_no (size := size) (tx := tx) (ps := ps) (ns := ns) (.inr (.inl h1))]
  have HG := fun w => rgood_any size w
  rw [hg] at HG
  have HNu := Lib.hid h1
  clear h1
  clear hg
  have HR := Lib.hid hr
  have HR2 := Lib.hid hr2
  go_enter Try.func19, Try.ntmps19
  go_wp2_with (go_at_call 49; refine (HG _).mono ?_; rintro e w' ⟨rfl, rfl⟩)
  refine (rnumbers_any A2 n2 c2 ns _ HR2.out (by unfold maxLen; omega)).mono ?_
  rw [HNu.out]
  rintro e w1 ⟨rfl, q1, hq1⟩
  have HB := Lib.hid (show Below w.heap.size w w1 by rw [hq1]; exact below_drewN (Below.refl _ _) q1)
  clear hq1
  go_wp2_with fail
  go_ret2
  exact ⟨rfl, HB.out⟩
set_option maxRecDepth 100000 in
set_option maxHeartbeats 12800000 in
theorem rlists_2 (size : Int) (tx : Nat) (A : Option Addr) (n c : Nat) (ps : List Nat) (A2 : Option Addr) (n2 c2 : Nat) (ns : List Nat) (w : World) (hr : Reads w w.heap.size 1 A n (ucells ps)) (hn : n ≤ 1000000) (hr2 : Reads w w.heap.size 1 A2 n2 (ucells ns)) (hn2 : n2 ≤ 1000000) (hg : goodSize size = true) (h1 : (allU ns && ascU ns) = true) (h3 : ps.length < needF size ns.length) : Calls Try.prog 19 #[.int .i64 size, .int .u64 tx, .slice A n c, .slice A2 n2 c2] w (PgsPost (listsL size tx ps ns) w) := by
  rw [listsL_no (size := size) (tx := tx) (ps := ps) (ns := ns) (.inr (.inr (.inl h3)))]
  have HG := fun w => rgood_any size w
  rw [hg] at HG
  have HNu := Lib.hid h1
  clear h1
  have HN := fun w => (rneed10_any size n2 w (by omega)).mono (R' := fun e w' => e = .returned (.int .i64 (needF size n2)) ∧ w = w') fun _ _ ⟨a, b⟩ => ⟨a, b⟩
  obtain ⟨nd, hnd⟩ : ∃ x, x = needF size n2 := ⟨_, rfl⟩
  rw [← hnd] at HN
  have hnl := ulen hr2
  have hgt : decide ((n : Int) < (nd : Int)) = true := by rw [hnl, ← hnd, ulen hr] at h3; simp; omega
  have hgt2 : decide (n < nd) = true := by rw [hnl, ← hnd, ulen hr] at h3; simp; omega
  clear hnl
  clear h3 hnd
  clear hg
  have HR := Lib.hid hr
  have HR2 := Lib.hid hr2
  go_enter Try.func19, Try.ntmps19
  go_wp2_with (go_at_call 49; refine (HG _).mono ?_; rintro e w' ⟨rfl, rfl⟩)
  refine (rnumbers_any A2 n2 c2 ns _ HR2.out (by unfold maxLen; omega)).mono ?_
  rw [HNu.out]
  rintro e w1 ⟨rfl, q1, hq1⟩
  have HB := Lib.hid (show Below w.heap.size w w1 by rw [hq1]; exact below_drewN (Below.refl _ _) q1)
  clear hq1
  go_wp2_with (go_at_call 54; refine (HN _).mono ?_; rintro e w' ⟨rfl, rfl⟩)
  go_ret2
  exact ⟨rfl, HB.out⟩
set_option maxRecDepth 100000 in
set_option maxHeartbeats 12800000 in
theorem rlists_3 (size : Int) (tx : Nat) (A : Option Addr) (n c : Nat) (ps : List Nat) (A2 : Option Addr) (n2 c2 : Nat) (ns : List Nat) (w : World) (hr : Reads w w.heap.size 1 A n (ucells ps)) (hn : n ≤ 1000000) (hr2 : Reads w w.heap.size 1 A2 n2 (ucells ns)) (hn2 : n2 ≤ 1000000) (hg : goodSize size = true) (h1 : (allU ns && ascU ns) = true) (h3 : needF size ns.length ≤ ps.length) (h4 : fineL ps = false) : Calls Try.prog 19 #[.int .i64 size, .int .u64 tx, .slice A n c, .slice A2 n2 c2] w (PgsPost (listsL size tx ps ns) w) := by
  rw [listsL_no (size := size) (tx := tx) (ps := ps) (ns := ns) (.inr (.inr (.inr (.inl h4))))]
  have HG := fun w => rgood_any size w
  rw [hg] at HG
  have HNu := Lib.hid h1
  clear h1
  have HN := fun w => (rneed10_any size n2 w (by omega)).mono (R' := fun e w' => e = .returned (.int .i64 (needF size n2)) ∧ w = w') fun _ _ ⟨a, b⟩ => ⟨a, b⟩
  obtain ⟨nd, hnd⟩ : ∃ x, x = needF size n2 := ⟨_, rfl⟩
  rw [← hnd] at HN
  have hnl := ulen hr2
  have hgt : decide ((n : Int) < (nd : Int)) = false := by rw [hnl, ← hnd, ulen hr] at h3; simp; omega
  have hgt2 : decide (n < nd) = false := by rw [hnl, ← hnd, ulen hr] at h3; simp; omega
  clear hnl
  have HFi := Lib.hid h4
  clear h3 hnd h4
  clear hg
  have HR := Lib.hid hr
  have HR2 := Lib.hid hr2
  go_enter Try.func19, Try.ntmps19
  go_wp2_with (go_at_call 49; refine (HG _).mono ?_; rintro e w' ⟨rfl, rfl⟩)
  refine (rnumbers_any A2 n2 c2 ns _ HR2.out (by unfold maxLen; omega)).mono ?_
  rw [HNu.out]
  rintro e w1 ⟨rfl, q1, hq1⟩
  have HB := Lib.hid (show Below w.heap.size w w1 by rw [hq1]; exact below_drewN (Below.refl _ _) q1)
  clear hq1
  go_wp2_with (go_at_call 54; refine (HN _).mono ?_; rintro e w' ⟨rfl, rfl⟩)
  refine (rfine_any A n c ps _ (HR.out.below HB.out) hn).mono ?_
  rw [HFi.out]
  rintro e w2 ⟨rfl, q, hq⟩
  have HB2 := Lib.hid (show Below w.heap.size w w2 by rw [hq]; exact below_drewN HB.out q)
  clear hq
  go_wp2_with fail
  go_ret2
  exact ⟨rfl, HB2.out⟩
set_option maxRecDepth 100000 in
set_option maxHeartbeats 12800000 in
theorem rlists_4 (size : Int) (tx : Nat) (A : Option Addr) (n c : Nat) (ps : List Nat) (A2 : Option Addr) (n2 c2 : Nat) (ns : List Nat) (w : World) (hr : Reads w w.heap.size 1 A n (ucells ps)) (hn : n ≤ 1000000) (hr2 : Reads w w.heap.size 1 A2 n2 (ucells ns)) (hn2 : n2 ≤ 1000000) (hg : goodSize size = true) (h1 : (allU ns && ascU ns) = true) (h3 : needF size ns.length ≤ ps.length) (h4 : fineL ps = true) (h5 : 4611686018427387904 < tx) : Calls Try.prog 19 #[.int .i64 size, .int .u64 tx, .slice A n c, .slice A2 n2 c2] w (PgsPost (listsL size tx ps ns) w) := by
  rw [listsL_no (size := size) (tx := tx) (ps := ps) (ns := ns) (.inr (.inr (.inr (.inr h5))))]
  have HG := fun w => rgood_any size w
  rw [hg] at HG
  have HNu := Lib.hid h1
  clear h1
  have HN := fun w => (rneed10_any size n2 w (by omega)).mono (R' := fun e w' => e = .returned (.int .i64 (needF size n2)) ∧ w = w') fun _ _ ⟨a, b⟩ => ⟨a, b⟩
  obtain ⟨nd, hnd⟩ : ∃ x, x = needF size n2 := ⟨_, rfl⟩
  rw [← hnd] at HN
  have hnl := ulen hr2
  have hgt : decide ((n : Int) < (nd : Int)) = false := by rw [hnl, ← hnd, ulen hr] at h3; simp; omega
  have hgt2 : decide (n < nd) = false := by rw [hnl, ← hnd, ulen hr] at h3; simp; omega
  clear hnl
  have htx : decide ((4611686018427387904 : Int) < tx) = true := by simp; omega
  have HFi := Lib.hid h4
  clear h3 hnd h4 h5
  clear hg
  have HR := Lib.hid hr
  have HR2 := Lib.hid hr2
  go_enter Try.func19, Try.ntmps19
  go_wp2_with (go_at_call 49; refine (HG _).mono ?_; rintro e w' ⟨rfl, rfl⟩)
  refine (rnumbers_any A2 n2 c2 ns _ HR2.out (by unfold maxLen; omega)).mono ?_
  rw [HNu.out]
  rintro e w1 ⟨rfl, q1, hq1⟩
  have HB := Lib.hid (show Below w.heap.size w w1 by rw [hq1]; exact below_drewN (Below.refl _ _) q1)
  clear hq1
  go_wp2_with (go_at_call 54; refine (HN _).mono ?_; rintro e w' ⟨rfl, rfl⟩)
  refine (rfine_any A n c ps _ (HR.out.below HB.out) hn).mono ?_
  rw [HFi.out]
  rintro e w2 ⟨rfl, q, hq⟩
  have HB2 := Lib.hid (show Below w.heap.size w w2 by rw [hq]; exact below_drewN HB.out q)
  clear hq
  go_wp2_with fail
  go_ret2
  exact ⟨rfl, HB2.out⟩
end Go.Proofs.Ytabhhccdbfjigaa
