/-
  Contracts of an allocation's Mine and Take, each with its conditions in its own statement.
-/
import Derived.Test.YtofbglgdmabafaaJ17
import Derived.Test.YtofbglgdmabafaaJ18
import Derived.Deep.RegionHeld3
namespace Go.Proofs.Ytofbglgdmabafaa
open Go.RowKit
open Go.Lib hiding intOf
open Go.Maps (Keyed IsMap Tidy)
set_option linter.unusedVariables false
set_option linter.unusedSimpArgs false
attribute [local go_sem ↓] Go.wp_at_zero Go.wp_at_succ

section
variable {D : DataW Unit} {took gave : List Nat} {n : Nat}
theorem litU_ne {m n : Nat} (h : m ≠ n) : (Lit.int .u32 (m : Int)) ≠ Lit.int .u32 (n : Int) := by
  intro e
  injection e with _ e
  omega
theorem inU_with (l : List Nat) (n m : Nat) : inU (withU l n) m = (decide (m = n) || inU l m) := by
  rw [Bool.eq_iff_iff, Bool.or_eq_true, inU_iff, inU_iff, decide_eq_true_iff, withU_mem]
theorem inU_less {l : List Nat} (hl : RiseU l) {n : Nat} (hn : n ∈ l) (m : Nat) : inU (lessU1 l n) m = (decide (m ≠ n) && inU l m) := by
  rw [Bool.eq_iff_iff, Bool.and_eq_true, inU_iff, inU_iff, decide_eq_true_iff, lessU1_mem hl hn, and_comm]
theorem MarksOf.take (h : MarksOf D took gave) (h1 : n ∉ took) (h2 : n ∉ gave) : MarksOf (D.put (.int .u32 (n : Int)) (.lit (.bool false))) (withU took n) gave := by
  have hk : WideAt.IsKeyLit (Lit.int .u32 (n : Int)) := trivial
  have i1 := inU_no.2 h1
  have i2 := inU_no.2 h2
  refine ⟨h.tidy.put hk _, fun m => ?_, fun m => ?_, ?_⟩
  · rw [inU_with]
    by_cases e : m = n
    · subst e
      rw [Maps.has_put_same h.tidy.isMap hk]
      simp
    · rw [Maps.has_put_other (litU_ne e), h.has m]
      simp [e]
  · by_cases e : m = n
    · subst e
      rw [Maps.atKey_put_same h.tidy.isMap hk, i2]
    · rw [Maps.atKey_put_other (litU_ne e), h.at_ m]
  · rw [Maps.size_put h.tidy, h.has n, i1, i2, h.size, withU_len]
    simp
    omega
theorem MarksOf.give (h : MarksOf D took gave) (h1 : n ∉ took) (h2 : n ∉ gave) : MarksOf (D.put (.int .u32 (n : Int)) (.lit (.bool true))) took (withU gave n) := by
  have hk : WideAt.IsKeyLit (Lit.int .u32 (n : Int)) := trivial
  have i1 := inU_no.2 h1
  have i2 := inU_no.2 h2
  refine ⟨h.tidy.put hk _, fun m => ?_, fun m => ?_, ?_⟩
  · rw [inU_with]
    by_cases e : m = n
    · subst e
      rw [Maps.has_put_same h.tidy.isMap hk]
      simp
    · rw [Maps.has_put_other (litU_ne e), h.has m]
      simp [e]
  · rw [inU_with]
    by_cases e : m = n
    · subst e
      rw [Maps.atKey_put_same h.tidy.isMap hk]
      simp
    · rw [Maps.atKey_put_other (litU_ne e), h.at_ m]
      simp [e]
  · rw [Maps.size_put h.tidy, h.has n, i1, i2, h.size, withU_len]
    simp
    omega
theorem MarksOf.back (h : MarksOf D took gave) (hr : RiseU took) (h1 : n ∈ took) (h2 : n ∉ gave) : MarksOf (D.del (.int .u32 (n : Int))) (lessU1 took n) gave := by
  have i1 := inU_iff.2 h1
  have i2 := inU_no.2 h2
  refine ⟨h.tidy.del _, fun m => ?_, fun m => ?_, ?_⟩
  · rw [inU_less hr h1]
    by_cases e : m = n
    · subst e
      rw [Maps.has_del_same, i2]
      simp
    · rw [Maps.has_del_other (litU_ne e), h.has m]
      simp [e]
  · by_cases e : m = n
    · subst e
      rw [Maps.atKey_del_same, i2]
    · rw [Maps.atKey_del_other (litU_ne e), h.at_ m]
  · have := Maps.size_del (k := .int .u32 (n : Int)) h.tidy
    rw [h.has n, i1, i2, h.size] at this
    have h3 := lessU1_len hr h1
    simp at this
    omega
theorem MarksOf.nil : MarksOf (.map [] : DataW Unit) [] [] := ⟨Maps.tidy_empty, fun n => rfl, fun n => rfl, rfl⟩
end
theorem tight {w : World} {P : Program} {k : TypeId} {R : Value → Option (DataW Unit × List MemPlace)} {b m : Nat} {D : DataW Unit} (h : w.ownsMap P k R b m D) {q : Nat} (hq : Maps.size D = q) : w.ownsMap P k R b q D := by
  obtain ⟨es, clock, hb, F, hs, hD⟩ := h
  refine ⟨es, clock, hb, F, ?_, hD⟩
  rw [← hq, hD]
  simp [Maps.size, length_sorted]
theorem MidU.other {w w' : World} {F : Nat → Prop} {A : Option Addr} {n c : Nat} {l : List Nat} (h : MidU w F A n c l) (hk : ∀ j, j < w.heap.size → F j → w'.heap[j]? = w.heap[j]?) : MidU w' F A n c l := by
  refine ⟨h.1, h.2.1, ?_⟩
  rcases h.2.2 with h1 | ⟨g, o, cur, e, hF, hg, h3⟩
  · exact .inl h1
  · exact .inr ⟨g, o, cur, e, hF, (hk g (Blk.lt (t := 27) hg) hF).trans hg, h3⟩
/-- 'm, ok := a.marks[n]' at the operation. -/
theorem wpList_mark (w : World) {ops : Array Oper} {rest : List Oper} {o : Oper} {a : Act} {Q : Exit → Act → World → Prop} (hg : o.guard = none) (m x : Operand) (hop : o.op = Op.lookup 65 m x true)
    {b k : Nat} {D : DataW Unit} {took gave : List Nat} (hown : w.ownsMap Try.prog 27 markEl b k D) (hM : MarksOf D took gave) (hm : a.eval m = .map (some b)) (n : Nat) (hx : a.eval x = .int .u32 n) (hn : n < 4294967296)
    (hK : wpList Try.prog ops Q rest (a.put o.dst (.tuple #[.agg #[.bool (inU gave n)], .bool (inU took n || inU gave n)])) w) : wpList Try.prog ops Q (o :: rest) a w := by
  refine wpList_lookup_own_ok w hg m x 65 hop 27 69 lawU Try.underlying65 markEl (zeroMark _) (.lit (.bool false)) [] (markEl_mk false) b k D hm hown _ _ hx (keyU hn) fun v ps hv => ?_
  obtain ⟨bb, rfl, hbb⟩ := markEl_inv hv
  rw [hM.at_ n] at hbb
  have : inU gave n = bb := by simp at hbb; exact hbb.1
  rw [hM.has n, ← this]
  exact hK
/-- 'a.marks[n] = mark{x}' at the operation. -/
theorem wpList_mark_put (w : World) {ops : Array Oper} {rest : List Oper} {o : Oper} {a : Act} {Q : Exit → Act → World → Prop} (hg : o.guard = none) (m x v : Operand) (hop : o.op = Op.mapUpdate 65 m x v)
    {b k : Nat} {D : DataW Unit} (hown : w.ownsMap Try.prog 27 markEl b k D) (hk : k < maxLen) (hm : a.eval m = .map (some b)) (n : Nat) (z : Bool) (hx : a.eval x = .int .u32 n) (hv : a.eval v = .agg #[.bool z]) (hn : n < 4294967296)
    (hK : ∀ w', w'.ownsMap Try.prog 27 markEl b (k + 1) (D.put (.int .u32 (n : Int)) (.lit (.bool z))) → w.mapTurned w' b → wpList Try.prog ops Q rest (a.put o.dst undef) w') : wpList Try.prog ops Q (o :: rest) a w :=
  wpList_mapUpdate_in w hg m x v 65 hop 27 69 lawU Try.underlying65 markEl b k D hm hown hk _ _ _ hx hv (keyU hn) (.lit (.bool z)) [] (markEl_mk z) hK
/-- 'delete(a.marks, n)' at the operation. -/
theorem wpList_mark_del (w : World) {ops : Array Oper} {rest : List Oper} {o : Oper} {a : Act} {Q : Exit → Act → World → Prop} (hg : o.guard = none) (m x : Operand) (hop : o.op = Op.call { callee := Callee.builtin Builtin.delete, args := #[m, x], argTypes := #[65, 27] })
    {b k : Nat} {D : DataW Unit} (hown : w.ownsMap Try.prog 27 markEl b k D) (hm : a.eval m = .map (some b)) (n : Nat) (hx : a.eval x = .int .u32 n) (hn : n < 4294967296)
    (hK : ∀ w', w'.ownsMap Try.prog 27 markEl b k (D.del (.int .u32 (n : Int))) → w.mapTurned w' b → wpList Try.prog ops Q rest (a.put o.dst (.tuple #[])) w') : wpList Try.prog ops Q (o :: rest) a w :=
  wpList_delete_own w hg m x 65 27 hop 69 lawU Try.underlying65 markEl b k D hm hown _ _ hx (keyU hn) hK
section
variable {w : World} {F : Nat → Prop} {g : Nat} {S : AlS}
set_option maxRecDepth 100000 in
theorem amine_any (h : Al w F g S) (n : Nat) (hn : n < 4294967296) :
    Calls Try.prog 15 #[.pointer (some ⟨g, 0, none⟩), .int .u32 n] w fun e w' => e = .returned (.bool (inU S.took n)) ∧ Below w.heap.size w w' := by
  have hv := avalid_yes h
  obtain ⟨A, nn, c, b, D, h⟩ := h
  obtain ⟨_, _, _, _, c4⟩ := al_cells h
  have hmap := h.map
  have HM := Lib.hid h.marks
  have H3 := Lib.hid (h.ok.d23 n)
  have HN := Lib.hid hn
  clear h hn
  cases ht : inU S.took n <;> cases hg : inU S.gave n
  all_goals
    have HT := Lib.hid ht
    have HG := Lib.hid hg
    clear ht hg
  case true.true => exact absurd (inU_iff.1 HG.out) (H3.out (inU_iff.1 HT.out))
  all_goals
    go_enter Try.func15, Try.ntmps15
    go_wp2_with (first
      | (go_at_call 36; refine hv.mono ?_; rintro e w' ⟨rfl, rfl⟩)
      | (at_lookup; refine wpList_mark _ rfl _ _ rfl hmap HM.out rfl n rfl HN.out ?_; rw [HT.out, HG.out]))
    go_ret
    exact ⟨by first | rfl | simp, (Below.refl _ _).alloc (Nat.le_refl _) _⟩
set_option maxRecDepth 100000 in
/-- Take where a page is free at once. -/
theorem atake_head (h : Al w F g S) {x : Nat} {r : List Nat} (hn : S.now = x :: r) :
    Calls Try.prog 12 #[.pointer (some ⟨g, 0, none⟩)] w fun e w' => e = .returned (.tuple #[.int .u32 x, .int .i64 0]) ∧ Al w' F g S.takes.2.2 ∧ Kept F w w' := by
  have hv := avalid_yes h
  obtain ⟨A, nn, c, b, D, h⟩ := h
  obtain ⟨_, c1, c2, _, c4⟩ := al_cells h
  have f1 := h.blk.frozen 1
  have hok := h.ok
  have hsm := hok.small
  have hxin : x ∈ S.now := by rw [hn]; simp
  have hx := (hok.i1 x hxin).2
  have hmid := h.mid
  rw [hn] at hmid
  have htail := hmid.tail
  obtain ⟨ad, hA, _, hc⟩ := ureads_at (hmid.reads fun k hk => h.Flt k hk.1) (k := 0) (by have := hmid.1; simp at this; omega)
  subst hA
  rw [add_zero_addr, show nthU (x :: r) 0 = x from rfl] at hc
  obtain ⟨X, hX, hsl⟩ := usliced (some ad) nn c 1 1 rfl (by have := hmid.1; simp at this; omega)
  rw [← hX] at htail
  have hgb := h.gb
  have hmap1 : (w.setCell ⟨g, 1, none⟩ (.slice X (nn - 1) (c - 1))).ownsMap Try.prog 27 markEl b (S.took.length + S.gave.length) D := h.map.setCell (by exact hgb.symm) _
  have hb1 : Blk (w.setCell ⟨g, 1, none⟩ (.slice X (nn - 1) (c - 1))) g 67 #[.pointer (some ⟨g, 0, none⟩), .slice X (nn - 1) (c - 1), .int .u32 S.count, .int .u32 S.most, .map (some b)] := h.blk.set_ 1 _
  have c41 := hb1.cell 4
  simp at c41
  have hn0 : 0 < nn := by have := hmid.1; simp at this; omega
  have hn1 : (0 : Int) < (nn : Int) := by omega
  have hlast : ∀ w2, w2.ownsMap Try.prog 27 markEl b (S.took.length + S.gave.length + 1) (D.put (.int .u32 (x : Int)) (.lit (.bool false))) → (w.setCell ⟨g, 1, none⟩ (.slice X (nn - 1) (c - 1))).mapTurned w2 b → Al w2 F g S.takes.2.2 ∧ Kept F w w2 := fun w2 ho ht => by
    have hgr := ht.grown
    have hK : Kept F w w2 := ((Kept.refl F w).setCell (p := ⟨g, 1, none⟩) (.inl h.Fg) _).grown hgr (fun k e => by cases e; exact .inl h.Fb)
    have hM := h.marks.take (n := x) (hok.d12 x hxin) (hok.d13 x hxin)
    have hS : S.takes.2.2 = { S with now := r, took := withU S.took x } := by unfold AlS.takes; rw [hn]
    refine ⟨⟨X, nn - 1, c - 1, b, D.put (.int .u32 (x : Int)) (.lit (.bool false)), ?_⟩, hK⟩
    rw [hS]
    refine ⟨hb1.grown hgr (by intro e; cases e; exact hgb rfl), ?_, tight ho (by rw [hM.size]), hM, ?_, h.Fg, h.Fb, fun k hk => Nat.lt_of_lt_of_le (h.Flt k hk) hK.size⟩
    · refine htail.other fun j hj hF => ?_
      rw [hgr.block j (by simpa [World.setCell] using hj) (by intro e; cases e; exact hF.2.2 rfl)]
      exact Below.heap_setCell _ _ _ _ hF.2.1
    · have := AlS.takes_ok hok
      rw [hS] at this
      exact this
  have HL := Lib.hid hlast
  have HX := Lib.hid (show x < 4294967296 by omega)
  have HS := Lib.hid (show S.took.length + S.gave.length < maxLen by unfold maxLen; omega)
  clear hlast htail hX hmid hxin hx hok hsm hgb hn h hb1
  go_enter Try.func12, Try.ntmps12
  go_wp2_with (first
    | (go_at_call 36; refine hv.mono ?_; rintro e w' ⟨rfl, rfl⟩)
    | (at_mapUpdate; refine wpList_mark_put _ rfl _ _ _ rfl hmap1 HS.out rfl x false rfl rfl HX.out ?_; intro w2 ho2 ht2))
  go_ret2
  exact ⟨rfl, HL.out _ ho2 ht2⟩
end
end Go.Proofs.Ytofbglgdmabafaa

