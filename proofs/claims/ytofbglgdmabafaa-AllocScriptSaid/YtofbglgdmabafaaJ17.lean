/-
  What an allocation is in memory (Al), and contracts of its methods that only read cells: each with its conditions in its own statement.
-/
import Derived.Test.YtofbglgdmabafaaJ16
import Derived.Maps.OwnSet
import Derived.Maps.RangeWalk
import Derived.Laws.EntriesVeiled
import Derived.Deep.QuietTactic
import Derived.BigQuiet
namespace Go.Proofs.Ytofbglgdmabafaa
open Go.RowKit
open Go.Lib hiding intOf
set_option linter.unusedVariables false
set_option linter.unusedSimpArgs false
attribute [local go_sem ↓] Go.wp_at_zero Go.wp_at_succ

/-- How a mark reads. -/
def markEl (v : Value) : Option (DataW Unit × List MemPlace) :=
  match v with
  | .agg cs => match cs.toList with
    | [.bool b] => some (.lit (.bool b), [])
    | _ => none
  | _ => none
theorem markEl_mk (b : Bool) : markEl (.agg #[.bool b]) = some (.lit (.bool b), []) := rfl
theorem markEl_inv {v : Value} {z : DataW Unit × List MemPlace} (h : markEl v = some z) : ∃ b, v = .agg #[.bool b] ∧ z = (.lit (.bool b), []) := by
  unfold markEl at h
  cases v <;> simp only at h <;> try (cases h; done)
  rename_i cs
  split at h
  · rename_i b hb
    injection h with h
    exact ⟨b, by rw [← hb], h.symm⟩
  · cases h
theorem lawU : Maps.Keyed Try.prog 27 := Maps.int_keyed Try.underlying27
theorem zeroMark (w : World) : (zeroValue 69).run Try.prog w = .ok (.agg #[.bool false]) w := by kernel_rfl
theorem wfU {n : Nat} (h : n < 4294967296) : (Lit.int .u32 (n : Int)).wf = true := WalkArith.wf_u32 (by omega)
theorem keyU {n : Nat} (h : n < 4294967296) : keyOf Try.prog 27 (.int .u32 (n : Int)) = some (.int .u32 (n : Int)) := Maps.keyOf_int_mk Try.underlying27 (wfU h)
/-- The marks that these pages have. -/
structure MarksOf (D : DataW Unit) (took gave : List Nat) : Prop where
  tidy : Maps.Tidy D
  has : ∀ n : Nat, Maps.has D (.int .u32 (n : Int)) = (inU took n || inU gave n)
  at_ : ∀ n : Nat, D.atKey (.int .u32 (n : Int)) (.lit (.bool false)) = .lit (.bool (inU gave n))
  size : Maps.size D = took.length + gave.length
structure AlAt (w : World) (F : Nat → Prop) (g : Nat) (S : AlS) (A : Option Addr) (n c b : Nat) (D : DataW Unit) : Prop where
  blk : Blk w g 67 #[.pointer (some ⟨g, 0, none⟩), .slice A n c, .int .u32 S.count, .int .u32 S.most, .map (some b)]
  mid : MidU w (fun k => F k ∧ k ≠ g ∧ k ≠ b) A n c S.now
  map : w.ownsMap Try.prog 27 markEl b (S.took.length + S.gave.length) D
  marks : MarksOf D S.took S.gave
  ok : S.ok
  Fg : F g
  Fb : F b
  Flt : ∀ k, F k → k < w.heap.size
def Al (w : World) (F : Nat → Prop) (g : Nat) (S : AlS) : Prop := ∃ A n c b D, AlAt w F g S A n c b D
section
variable {w w' : World} {F G : Nat → Prop} {g : Nat} {S : AlS} {A : Option Addr} {n c b : Nat} {D : DataW Unit}
theorem ownsMap_kept {P : Program} {k : TypeId} {R : Value → Option (DataW Unit × List MemPlace)} {m : Nat} (h : w.ownsMap P k R b m D) (hk : Kept G w w') (hn : ¬ G b) : w'.ownsMap P k R b m D := by
  have hlt := h.lt
  obtain ⟨es, clock, hb, r⟩ := h
  exact ⟨es, clock, (hk.block b hlt hn).trans hb, r⟩
theorem AlAt.kept (h : AlAt w F g S A n c b D) (hk : Kept G w w') (hn : ∀ k, F k → ¬ G k) : AlAt w' F g S A n c b D :=
  { h with
    blk := hk.blk h.blk (hn _ h.Fg)
    mid := h.mid.kept hk fun k hk' => hn k hk'.1
    map := ownsMap_kept h.map hk (hn _ h.Fb)
    Flt := fun k hk' => Nat.lt_of_lt_of_le (h.Flt k hk') hk.size }
theorem Al.kept (h : Al w F g S) (hk : Kept G w w') (hn : ∀ k, F k → ¬ G k) : Al w' F g S := by
  obtain ⟨A, n, c, b, D, h⟩ := h
  exact ⟨A, n, c, b, D, h.kept hk hn⟩
theorem Al.lt (h : Al w F g S) : ∀ k, F k → k < w.heap.size := by obtain ⟨A, n, c, b, D, h⟩ := h; exact h.Flt
theorem Al.ok (h : Al w F g S) : S.ok := by obtain ⟨A, n, c, b, D, h⟩ := h; exact h.ok
theorem Al.new (h : Al w F g S) (hb : Below w.heap.size w w') : Al w' F g S :=
  h.kept (G := fun k => w.heap.size ≤ k) (Kept.of_below hb fun k h1 _ => h1) fun k hk => by have := h.lt k hk; omega
theorem AlAt.new (h : AlAt w F g S A n c b D) (hb : Below w.heap.size w w') : AlAt w' F g S A n c b D :=
  h.kept (G := fun k => w.heap.size ≤ k) (Kept.of_below hb fun k h1 _ => h1) fun k hk => by have := h.Flt k hk; omega
theorem Al.wide (h : Al w F g S) (hG : ∀ k, F k → G k) (hlt : ∀ k, G k → k < w.heap.size) : Al w G g S := by
  obtain ⟨A, n, c, b, D, h⟩ := h
  exact ⟨A, n, c, b, D, { h with mid := h.mid.wide fun k hk => ⟨hG _ hk.1, hk.2⟩, Fg := hG _ h.Fg, Fb := hG _ h.Fb, Flt := hlt }⟩
theorem AlAt.gb (h : AlAt w F g S A n c b D) : g ≠ b := by
  obtain ⟨es, clock, hb, _⟩ := h.map
  rintro rfl
  have := h.blk
  unfold Blk at this
  rw [hb] at this
  cases this
theorem al_cells (h : AlAt w F g S A n c b D) : w.cell? ⟨g, 0, none⟩ = some (.pointer (some ⟨g, 0, none⟩)) ∧ w.cell? ⟨g, 1, none⟩ = some (.slice A n c) ∧ w.cell? ⟨g, 2, none⟩ = some (.int .u32 S.count) ∧ w.cell? ⟨g, 3, none⟩ = some (.int .u32 S.most) ∧ w.cell? ⟨g, 4, none⟩ = some (.map (some b)) :=
  ⟨h.blk.cell 0, h.blk.cell 1, h.blk.cell 2, h.blk.cell 3, h.blk.cell 4⟩
theorem AlAt.len (h : AlAt w F g S A n c b D) : S.now.length = n := h.mid.1
theorem AlS.ok.small {S : AlS} (h : S.ok) : S.now.length ≤ 1048576 ∧ S.took.length ≤ 1048576 ∧ S.gave.length ≤ 1048576 ∧ S.count ≤ 1048576 := by
  have a := rise_len h.r1 fun n hn => (h.i1 n hn).2
  have b := rise_len h.r2 fun n hn => (h.i2 n hn).2
  have c := rise_len h.r3 fun n hn => (h.i3 n hn).2
  have := h.cm
  have := h.mm
  omega
end

theorem infoAl : (Try.prog.info? 67).map (fun i => i.size) = some 5 := by kernel_rfl
theorem avalid_yes {w : World} {F : Nat → Prop} {g : Nat} {S : AlS} (h : Al w F g S) :
    Calls Try.prog 36 #[.pointer (some ⟨g, 0, none⟩)] w fun e w' => e = .returned (.bool true) ∧ w = w' := by
  obtain ⟨A, n, c, b, D, h⟩ := h
  obtain ⟨c0, _⟩ := al_cells h
  have hi := infoAl
  obtain ⟨i0, hi0, hs⟩ := Option.map_eq_some_iff.1 hi
  have heq := run_eql_ptr_same w ⟨g, 0, none⟩ Try.underlying23 hi0
  clear hi
  go_enter Try.func36, Try.ntmps36
  go_wp2
  go_ret
  exact ⟨rfl, rfl⟩
theorem apages_any {w : World} {F : Nat → Prop} {g : Nat} {S : AlS} (h : Al w F g S) :
    Calls Try.prog 20 #[.pointer (some ⟨g, 0, none⟩)] w fun e w' => e = .returned (.int .u32 S.count) ∧ w = w' := by
  have hv := avalid_yes h
  obtain ⟨A, n, c, b, D, h⟩ := h
  obtain ⟨_, _, c2, _⟩ := al_cells h
  go_enter Try.func20, Try.ntmps20
  go_wp2_with (go_at_call 36; refine hv.mono ?_; rintro e w' ⟨rfl, rfl⟩)
  go_ret
  exact ⟨rfl, rfl⟩
theorem aleft_any {w : World} {F : Nat → Prop} {g : Nat} {S : AlS} (h : Al w F g S) :
    Calls Try.prog 16 #[.pointer (some ⟨g, 0, none⟩)] w fun e w' => e = .returned (.int .i64 S.left) ∧ Below w.heap.size w w' := by
  have hv := avalid_yes h
  have hok := h.ok
  obtain ⟨A, n, c, b, D, h⟩ := h
  obtain ⟨_, c1, c2, c3, _⟩ := al_cells h
  have hsm := hok.small
  have hl := h.len
  have hcm := hok.cm
  have hmm := hok.mm
  have e1 : (S.most : Int) - (S.count : Int) = ((S.most - S.count : Nat) : Int) := by omega
  have w1 : IntKind.u32.wrap ((S.most : Int) - (S.count : Int)) = ((S.most - S.count : Nat) : Int) := by rw [IntKind.wrap_u32]; omega
  have w2 : IntKind.i64.wrap (((S.most - S.count : Nat) : Int)) = ((S.most - S.count : Nat) : Int) := by rw [IntKind.wrap_i64]; omega
  have w3 : IntKind.i64.wrap ((n : Int) + ((S.most - S.count : Nat) : Int)) = (n : Int) + ((S.most - S.count : Nat) : Int) := by rw [IntKind.wrap_i64]; omega
  have E := Lib.hid (show (n : Int) + ((S.most - S.count : Nat) : Int) = ((S.left : Nat) : Int) from by unfold AlS.left; omega)
  clear hsm hl hcm hmm hok
  go_enter Try.func16, Try.ntmps16
  go_wp2_with (go_at_call 36; refine hv.mono ?_; rintro e w' ⟨rfl, rfl⟩)
  clear hv h e1
  go_region
  all_goals (go_wp2_with fail; go_ret)
  all_goals exact ⟨by rw [E.out]; rfl, (Below.refl _ _).drew⟩
end Go.Proofs.Ytofbglgdmabafaa

