/-
  Texts that the main proof rests on, put together: ChLinks, Bld. No statement is proved here.
-/
import Derived.Test.YtabhhccdbfjigaaJ29
import Derived.Test.YtabhhccdbfjigaaJ16
import Derived.Shelf.Strings.BuilderK
import Derived.Test.YtabhhccdbfjigaaProg
namespace Go.Proofs.Ytabhhccdbfjigaa
open Go.RowKit Go.Shelf

set_option linter.unusedVariables false
set_option linter.unusedSimpArgs false
attribute [local go_sem] Oper.semAt_some

theorem results_cells2 {P : Program} {fn : Func} {p q : Tmp} {ty tq : TypeId} (h : fn.results = #[.cell p ty, .cell q tq]) (tmps : Array Value) (w : World) (g g' : Nat) (u v : Value)
    (hp : tmps.getD p undef = .pointer (some ⟨g, 0, none⟩)) (hq : tmps.getD q undef = .pointer (some ⟨g', 0, none⟩)) (hu : (loadVar ty ⟨g, 0, none⟩).run P w = .ok u w) (hv : (loadVar tq ⟨g', 0, none⟩).run P w = .ok v w) :
    (results fn tmps).run P w = .ok (.tuple #[u, v]) w := by
  have hp' : tmps[p]?.getD undef = .pointer (some ⟨g, 0, none⟩) := by simpa using hp
  have hq' : tmps[q]?.getD undef = .pointer (some ⟨g', 0, none⟩) := by simpa using hq
  simp [results, h, hp', hq', asAddr, hu, hv]
theorem load_boxL {w : World} {g : Nat} {t : TypeId} {v : Value} (ht : t = 41 ∨ t = 4) (h : Boxed w g t v) : (loadVar t ⟨g, 0, none⟩).run Try.prog w = .ok v w := by
  have hc := h.cell
  rcases ht with rfl | rfl <;> simp [go_sem, hc]
theorem follow_le {size : Int} {s : ByteArray} {kd : Int} {head : Nat} : (followL size s kd head).length ≤ s.size + 1 := by
  have h := fresh_le (along_fresh (size := size) (s := s) (kd := kd) (head := head) s.size)
  have h2 := Nat.div_le_self s.size size.toNat
  unfold followL chainL
  rw [List.length_append, List.length_map]
  split <;> simp <;> omega
/-- A page's cells in a block of its own. -/
def Boxed' (W : World) (B : Nat) (p : Pg) : Prop := Blk W B 40 #[.int .i64 p.kd, .int .i64 p.ct, .int .u32 p.pg, .int .u32 p.lk, .int .u64 p.tx, .string p.bd]
theorem boxed'_kept {W W' : World} {B : Nat} {p : Pg} {row : Option Nat} (h : Boxed' W B p) (hg : W.grownBy W' row) (hr : ∀ r, row = some r → ∃ o : Obj, W.heap[r]? = some o ∧ o.isCells = false) : Boxed' W' B p := by
  refine Blk.grown h hg fun e => ?_
  obtain ⟨o, h1, h2⟩ := hr B e.symm
  rw [show W.heap[B]? = _ from h] at h1
  cases h1
  cases h2
theorem row_keep {W : World} {base size k : Nat} {e : TypeId} {v : Value} {xs : List Value} (hrow : W.ownsRow base e size v k xs) (he : (e == 3 || e == 9 || e == 40) = false) (o : Obj) : ∀ r, v.ownBlock = some r → ∃ o', (W.alloc o).heap[r]? = some o' ∧ keepO o' = false := fun r er => by
  rcases (hrow.alloc o).2 with ⟨rfl, _⟩ | ⟨g, cap, cur, rfl, _, hgb, _⟩
  · simp [Value.ownBlock] at er
  · obtain rfl : g = r := by simpa [Value.ownBlock] using er
    exact ⟨_, hgb, by unfold keepO; simp only [he, Bool.or_false]; rfl⟩
theorem reads7 (w : World) (t : TypeId) (x : Lk) : ∀ j u, x.cells[j]? = some u → (w.alloc (.cells #[.int .i64 x.p.kd, .int .i64 x.p.ct, .int .u32 x.p.pg, .int .u32 x.p.lk, .int .u64 x.p.tx, .string x.p.bd, .int .i64 x.e] t)).cell? ((⟨w.heap.size, 0, none⟩ : Addr).add j) = some u := fun j u hj => by
  have e : (⟨w.heap.size, 0, none⟩ : Addr).add j = ⟨w.heap.size, j, none⟩ := by unfold Addr.add; split <;> simp_all
  rw [e, (Blk.new w t _).cell j]
  simpa [Lk.cells] using hj
set_option maxRecDepth 100000 in
set_option maxHeartbeats 6400000 in
theorem hlinks_any (size : Int) (s : ByteArray) (head : Nat) (kd : Int) (w : World) (hs : s.size ≤ 1000000) (hh : head < 4294967296) :
    Calls Try.prog 15 #[.int .i64 size, .string s, .int .u32 head, .int .i64 kd] w fun e w' => ∃ A n c, e = .returned (.tuple #[.slice A n c, .bool true]) ∧ Reads w' w'.heap.size 7 A n (lkc (followL size s kd head)) ∧ Below w.heap.size w w' := by
  obtain ⟨i0, hi, hz0, hz1, hz2⟩ := info_parts infoLk
  have hfe : ∀ (g : Fn) (a b : Array Value) (W : World), (binOp .eql 66 (.func g a b) .nilFunc).run Try.prog W = .ok (.bool false) W := fun _ _ _ _ => rfl
  refine (callsIn_wide (n := 5)).1 ?_
  refine callsIn_of_wp_marks Try.func15 rfl trivial ?_ rfl
  simp only [Try.ntmps15, List.size_toArray, List.length_cons, List.length_nil, Nat.reduceAdd, Nat.reduceSub, Array.replicate_succ, Array.replicate_zero, List.push_toArray, List.append_toArray, List.nil_append, List.cons_append]
  have HFl := Lib.hid (follow_le (size := size) (s := s) (kd := kd) (head := head))
  gi_wp2_with (refine ⟨trivial, ?_⟩; gi_at_call 30; refine (callsIn_wide.2 (fmake_any size s head kd _)).mono ?_; rintro e w' ⟨rfl, rfl⟩)
  obtain ⟨H, hH⟩ : ∃ H, H = w.heap.size := ⟨_, rfl⟩
  obtain ⟨W0, hW0⟩ : ∃ W0, W0 = ((((((((w.alloc (.cells #[.string s] 9)).alloc (.cells #[.slice none 0 0] 41)).alloc (.cells #[.bool false] 4)).alloc (.cells #[.int .i64 size] 3)).alloc (.cells #[.string s] 9)).alloc (.cells #[.int .u32 head] 29)).alloc (.cells #[.int .i64 kd] 3)).alloc (.cells #[.slice none 0 0] 41)) := ⟨_, rfl⟩
  have hsz : W0.heap.size = H + 8 := by rw [hW0, hH]; simp
  have bV : Boxed W0 (H) 9 (.string s) := by
    rw [hW0, hH]
    have := (((((((Boxed.new w 9 (.string s)).alloc (.cells #[.slice none 0 0] 41)).alloc (.cells #[.bool false] 4)).alloc (.cells #[.int .i64 size] 3)).alloc (.cells #[.string s] 9)).alloc (.cells #[.int .u32 head] 29)).alloc (.cells #[.int .i64 kd] 3)).alloc (.cells #[.slice none 0 0] 41)
    simpa [Nat.add_assoc] using this
  have bR : Boxed W0 (H + 1) 41 (.slice none 0 0) := by
    rw [hW0, hH]
    have := ((((((Boxed.new (w.alloc (.cells #[.string s] 9)) 41 (.slice none 0 0)).alloc (.cells #[.bool false] 4)).alloc (.cells #[.int .i64 size] 3)).alloc (.cells #[.string s] 9)).alloc (.cells #[.int .u32 head] 29)).alloc (.cells #[.int .i64 kd] 3)).alloc (.cells #[.slice none 0 0] 41)
    simpa [Nat.add_assoc] using this
  have bK : Boxed W0 (H + 1 + 1) 4 (.bool false) := by
    rw [hW0, hH]
    have := (((((Boxed.new ((w.alloc (.cells #[.string s] 9)).alloc (.cells #[.slice none 0 0] 41)) 4 (.bool false)).alloc (.cells #[.int .i64 size] 3)).alloc (.cells #[.string s] 9)).alloc (.cells #[.int .u32 head] 29)).alloc (.cells #[.int .i64 kd] 3)).alloc (.cells #[.slice none 0 0] 41)
    simpa [Nat.add_assoc] using this
  have b2 : Boxed W0 (H + 1 + 1 + 1) 3 (.int .i64 size) := by
    rw [hW0, hH]
    have := ((((Boxed.new (((w.alloc (.cells #[.string s] 9)).alloc (.cells #[.slice none 0 0] 41)).alloc (.cells #[.bool false] 4)) 3 (.int .i64 size)).alloc (.cells #[.string s] 9)).alloc (.cells #[.int .u32 head] 29)).alloc (.cells #[.int .i64 kd] 3)).alloc (.cells #[.slice none 0 0] 41)
    simpa [Nat.add_assoc] using this
  have b3 : Boxed W0 (H + 1 + 1 + 1 + 1) 9 (.string s) := by
    rw [hW0, hH]
    have := (((Boxed.new ((((w.alloc (.cells #[.string s] 9)).alloc (.cells #[.slice none 0 0] 41)).alloc (.cells #[.bool false] 4)).alloc (.cells #[.int .i64 size] 3)) 9 (.string s)).alloc (.cells #[.int .u32 head] 29)).alloc (.cells #[.int .i64 kd] 3)).alloc (.cells #[.slice none 0 0] 41)
    simpa [Nat.add_assoc] using this
  have b1 : Boxed W0 (H + 1 + 1 + 1 + 1 + 1) 29 (.int .u32 head) := by
    rw [hW0, hH]
    have := ((Boxed.new (((((w.alloc (.cells #[.string s] 9)).alloc (.cells #[.slice none 0 0] 41)).alloc (.cells #[.bool false] 4)).alloc (.cells #[.int .i64 size] 3)).alloc (.cells #[.string s] 9)) 29 (.int .u32 head)).alloc (.cells #[.int .i64 kd] 3)).alloc (.cells #[.slice none 0 0] 41)
    simpa [Nat.add_assoc] using this
  have b4 : Boxed W0 (H + 1 + 1 + 1 + 1 + 1 + 1) 3 (.int .i64 kd) := by
    rw [hW0, hH]
    have := (Boxed.new ((((((w.alloc (.cells #[.string s] 9)).alloc (.cells #[.slice none 0 0] 41)).alloc (.cells #[.bool false] 4)).alloc (.cells #[.int .i64 size] 3)).alloc (.cells #[.string s] 9)).alloc (.cells #[.int .u32 head] 29)) 3 (.int .i64 kd)).alloc (.cells #[.slice none 0 0] 41)
    simpa [Nat.add_assoc] using this
  have bO : Boxed W0 (H + 1 + 1 + 1 + 1 + 1 + 1 + 1) 41 (.slice none 0 0) := by
    rw [hW0, hH]
    have := Boxed.new (((((((w.alloc (.cells #[.string s] 9)).alloc (.cells #[.slice none 0 0] 41)).alloc (.cells #[.bool false] 4)).alloc (.cells #[.int .i64 size] 3)).alloc (.cells #[.string s] 9)).alloc (.cells #[.int .u32 head] 29)).alloc (.cells #[.int .i64 kd] 3)) 41 (.slice none 0 0)
    simpa [Nat.add_assoc] using this
  have hB0 : Below H w W0 := by
    rw [hW0, hH]
    exact ((((((((Below.refl _ w).alloc (by simp) _).alloc (by simp) _).alloc (by simp; omega) _).alloc (by simp; omega) _).alloc (by simp; omega) _).alloc (by simp; omega) _).alloc (by simp; omega) _).alloc (by simp; omega) _
  rw [← hW0]
  rw [← hH]
  have hHle : H ≤ w.heap.size := by omega
  have HH := Lib.hid hH
  have h8 : H + 8 ≤ W0.heap.size := by omega
  have HHs := Lib.hid hs
  clear hW0 hH hsz
  refine wpIn_rangeFunc_ownH (F := Fence.wide) rfl (by decide) (gf := 66) (lb := #[.pointer (some ⟨H + 1 + 1 + 1 + 1 + 1, 0, none⟩), .pointer (some ⟨H + 1 + 1 + 1, 0, none⟩), .pointer (some ⟨H + 1 + 1 + 1 + 1, 0, none⟩), .pointer (some ⟨H + 1 + 1 + 1 + 1 + 1 + 1, 0, none⟩)]) rfl trivial (enters_of Try.func66 (by kernel_rfl) rfl)
    (ffollow_stops (5 - 1) (by decide) (H + 1 + 1 + 1 + 1 + 1) (H + 1 + 1 + 1) (H + 1 + 1 + 1 + 1) (H + 1 + 1 + 1 + 1 + 1 + 1) size s head kd hs hh W0 b1 b2 b3 b4) (fun h k => kpF_t h k) (fun W l o o' hl h hc hw => kpF_b W l o o' hl h hc hw) (Below.refl _ _) (fun _ => rfl)
    (fun pre W => (∃ V, Boxed W (H + 1 + 1 + 1 + 1 + 1 + 1 + 1) 41 V ∧ W.ownsRow (H + 1) 46 7 V pre.length (lkc (pre.map (·.1))) ∧ True) ∧ (Boxed W H 9 (.string s) ∧ (Boxed W (H + 1) 41 (.slice none 0 0) ∧ (Boxed W (H + 1 + 1) 4 (.bool false) ∧ Below H w W))))
    (fun _ _ _ => False)
    (OwnFrom.and (Own.from (holdsRow_own (H + 1) (H + 1 + 1 + 1 + 1 + 1 + 1 + 1) 41 46 7 (fun pre : List (FLk size s kd head) => pre.length) (fun pre : List (FLk size s kd head) => lkc (pre.map (·.1))) (fun _ _ => True)) _) (OwnFrom.and (Own.from (boxed_own _ _ (fun _ => .string s)) _) (OwnFrom.and (Own.from (boxed_own _ _ (fun _ => .slice none 0 0)) _) (OwnFrom.and (Own.from (boxed_own _ _ (fun _ => .bool false)) _) (ownFrom_below (by omega) (by omega))))))
    (fun _ _ _ _ _ hs _ _ => hs)
    ⟨⟨_, bO, World.ownsRow_nil _ _ _ _, trivial⟩, bV, bR, bK, hB0⟩
    (fun x a' W => ∃ Bx, H + 1 + 1 + 1 + 1 + 1 + 1 + 1 < Bx ∧ Boxed' W Bx x.1.p ∧ a' = { tmps := #[.int .i64 size, .string s, .int .u32 head, .int .i64 kd, undef, .pointer (some ⟨H, 0, none⟩), undef, undef, .pointer (some ⟨H + 1, 0, none⟩), .pointer (some ⟨H + 1 + 1, 0, none⟩), .func (.func 66) #[] #[.pointer (some ⟨H + 1 + 1 + 1 + 1 + 1, 0, none⟩), .pointer (some ⟨H + 1 + 1 + 1, 0, none⟩), .pointer (some ⟨H + 1 + 1 + 1 + 1, 0, none⟩), .pointer (some ⟨H + 1 + 1 + 1 + 1 + 1 + 1, 0, none⟩)], .pointer (some ⟨H + 1 + 1 + 1 + 1 + 1 + 1 + 1, 0, none⟩), .pointer (some ⟨Bx, 0, none⟩), .int .i64 x.1.e, .int .i64 size, .string s, .int .u32 head, .int .i64 kd, .func (.func 66) #[] #[.pointer (some ⟨H + 1 + 1 + 1 + 1 + 1, 0, none⟩), .pointer (some ⟨H + 1 + 1 + 1, 0, none⟩), .pointer (some ⟨H + 1 + 1 + 1 + 1, 0, none⟩), .pointer (some ⟨H + 1 + 1 + 1 + 1 + 1 + 1, 0, none⟩)], .func (.func 66) #[] #[.pointer (some ⟨H + 1 + 1 + 1 + 1 + 1, 0, none⟩), .pointer (some ⟨H + 1 + 1 + 1, 0, none⟩), .pointer (some ⟨H + 1 + 1 + 1 + 1, 0, none⟩), .pointer (some ⟨H + 1 + 1 + 1 + 1 + 1 + 1, 0, none⟩)], .bool false, .func (.func 66) #[] #[.pointer (some ⟨H + 1 + 1 + 1 + 1 + 1, 0, none⟩), .pointer (some ⟨H + 1 + 1 + 1, 0, none⟩), .pointer (some ⟨H + 1 + 1 + 1 + 1, 0, none⟩), .pointer (some ⟨H + 1 + 1 + 1 + 1 + 1 + 1, 0, none⟩)], .agg #[.int .i64 x.1.p.kd, .int .i64 x.1.p.ct, .int .u32 x.1.p.pg, .int .u32 x.1.p.lk, .int .u64 x.1.p.tx, .string x.1.p.bd], .int .i64 x.1.e, undef, undef, undef, undef, undef, undef, undef, undef, undef, undef, undef, undef], defers := [] })
    (fun x a' _ X Y row hs hg hr => by obtain ⟨Bx, e1, e2, e3⟩ := hs; exact ⟨Bx, e1, boxed'_kept e2 hg (fun r e => (hr r e).2), e3⟩)
    ?assign ?body ?done ?stop
  case assign =>
    rintro l pre x W K ⟨⟨V, hv, hrow, _⟩, hbV, hbR, hbK, hB⟩ hK
    gi_wp2
    exact hK _ _ ((KeepsOthers.alloc _ _).from _) (kpF_alloc _ _) ⟨⟨V, hv.alloc _, hrow.alloc _, trivial⟩, hbV.alloc _, hbR.alloc _, hbK.alloc _, hB.alloc (Nat.le_trans hHle hB.size) _⟩ ⟨W.heap.size, hv.lt, Blk.new _ _ _, rfl⟩
  case body =>
    rintro l pre x a' W hl _ ⟨⟨V, hv, hrow, _⟩, hbV, hbR, hbK, hB⟩ ⟨Bx, hBx, bX, rfl⟩ hlt
    have hcO := hv.cell
    have hcV := hbV.cell
    have hll := HFl.out
    have hs9 := HHs.out
    have hgt : ¬ (s.size : Int) < (pre.length : Int) := by omega
    have hgt2 : decide ((s.size : Int) < (pre.length : Int)) = false := decide_eq_false hgt
    have c0 := bX.cell 0
    have c1 := bX.cell 1
    have c2 := bX.cell 2
    have c3 := bX.cell 3
    have c4 := bX.cell 4
    have c5 := bX.cell 5
    simp at c0 c1 c2 c3 c4 c5
    obtain ⟨AV, cV, rfl, _, _, _⟩ := own_form hrow
    gi_wp2_with (gi_at_builtin; refine wpListIn_append_own _ rfl _ _ 41 rfl (H + 1) 46 i0 _ 7 56 Try.underlying41 hi hz0 hz1 hz2 rfl (by decide) _ _ _ rfl (hrow.alloc _) ⟨W.heap.size, 0, none⟩ 1 1 x.1.cells rfl rfl (reads7 _ _ _) (lk_one _) (by unfold maxLen; omega) (by omega) (by have := hB.size; have := hbR.lt; simp; omega) ?_; intro v' w1 hown' hgrow _; obtain ⟨g', cap', rfl⟩ := ownsRow_succ hown'; obtain ⟨hv1, hv2, hr2, hk2, hb2⟩ := hv.appended (by decide) hrow (Nat.le_of_lt hbR.lt) (by omega) hown' hgrow; have hc1 := hv1.cell; have hf1 := hv1.frozen)
    have hgr : (W.alloc (.cells #[.int .i64 x.1.p.kd, .int .i64 x.1.p.ct, .int .u32 x.1.p.pg, .int .u32 x.1.p.lk, .int .u64 x.1.p.tx, .string x.1.p.bd, .int .i64 x.1.e] 46)).grownBy w1 (Value.slice AV pre.length cV).ownBlock := hgrow
    have kV := ((hbV.alloc _).kept hgr (own_ne hrow (Nat.lt_succ_self H))).other (B' := H + 1 + 1 + 1 + 1 + 1 + 1 + 1) (by omega) (.slice (some ⟨g', 0, none⟩) (pre.length + 1) cap')
    have kR := ((hbR.alloc _).kept hgr (hbR.not_row (by decide) hrow)).other (B' := H + 1 + 1 + 1 + 1 + 1 + 1 + 1) (by omega) (.slice (some ⟨g', 0, none⟩) (pre.length + 1) cap')
    have kK := ((hbK.alloc _).kept hgr (hbK.not_row (by decide) hrow)).other (B' := H + 1 + 1 + 1 + 1 + 1 + 1 + 1) (by omega) (.slice (some ⟨g', 0, none⟩) (pre.length + 1) cap')
    have kKp : KpF W (w1.setCell ⟨H + 1 + 1 + 1 + 1 + 1 + 1 + 1, 0, none⟩ (.slice (some ⟨g', 0, none⟩) (pre.length + 1) cap')) :=
      kpF_t (kpF_alloc W _) (kpF_t (kpF_grown hgr (row_keep hrow (by decide) _)) (kpF_grown (grownBy_setCell' w1 _ _) (fun r e => by cases e; exact ⟨_, hv1, rfl⟩)))
    have hr3 : (w1.setCell ⟨H + 1 + 1 + 1 + 1 + 1 + 1 + 1, 0, none⟩ (.slice (some ⟨g', 0, none⟩) (pre.length + 1) cap')).ownsRow (H + 1) 46 7 (.slice (some ⟨g', 0, none⟩) (pre.length + 1) cap') (pre ++ [x]).length (lkc ((pre ++ [x]).map (·.1))) := by
      rw [List.map_append, List.map_cons, List.map_nil, ← lkc_snoc, List.length_append, List.length_singleton]
      exact hr2
    refine ⟨hk2.from _, kKp, ⟨⟨_, hv2, ?_⟩, kV, kR, kK, hB.trans (hb2.mono (Nat.le_succ H))⟩⟩
    first
      | exact hr3
      | exact ⟨hr3, trivial⟩
  case done =>
    rintro D ys W hD hys ⟨⟨V, hv, hrow, _⟩, hbV, hbR, hbK, hB⟩ hK
    have hcO := hv.cell
    have hcR := hbR.cell
    have hcK := hbK.cell
    have hfR := hbR.frozen
    have hfK := hbK.frozen
    obtain ⟨AV, cV, rfl, _, _, _⟩ := own_form hrow
    have hbK2 := hbK.other (B' := H + 1) (by omega) (.slice AV ys.length cV)
    have hcK2 := hbK2.cell
    have hfK2 := hbK2.frozen
    gi_wp2
    obtain ⟨V, hV⟩ : ∃ V, V = Value.slice AV ys.length cV := ⟨_, rfl⟩
    have HV := Lib.hid hV
    rw [← hV] at hv hrow hbK2 ⊢
    clear hV hcO hcR hcK hfR hfK hcK2 hfK2
    obtain ⟨W2, hW2⟩ : ∃ W2, W2 = (W.setCell ⟨H + 1, 0, none⟩ V).setCell ⟨H + 1 + 1, 0, none⟩ (.bool true) := ⟨_, rfl⟩
    have hK2 : W2.heap[D]? = some (.deferred (some [])) := by
      rw [hW2]
      exact ((KeepsOthers.setCell W _ _).trans (KeepsOthers.setCell _ _ _)).same D _ hK rfl
    have bR2 : Boxed W2 (H + 1) 41 V := by rw [hW2]; exact (hbR.set V).other (by omega) _
    have bK2 : Boxed W2 (H + 1 + 1) 4 (.bool true) := by rw [hW2]; exact hbK2.set _
    have hr1 := hrow.kept (grownBy_setCell' W (H + 1) V) (.inr (fun e => hbR.not_row (by decide) hrow e.symm))
    have hr2 : W2.ownsRow (H + 1) 46 7 V ys.length (lkc (ys.map (·.1))) := by
      rw [hW2]
      exact hr1.kept (grownBy_setCell' _ (H + 1 + 1) _) (.inr (fun e => hbK2.not_row (by decide) hr1 e.symm))
    have hB2 : Below H w W2 := by
      rw [hW2]
      exact (hB.setCell (p := ⟨H + 1, 0, none⟩) (Nat.le_succ H) V).setCell (p := ⟨H + 1 + 1, 0, none⟩) (show H ≤ H + 1 + 1 by omega) (.bool true)
    rw [← hW2]
    clear hW2
    refine ⟨by simp, .inl ⟨_, _, rfl, run_takeDeferred hK2, ?_⟩⟩
    have bR3 := bR2.kept (grownBy_putObj' W2 D (.deferred none)) (by intro h; injection h with h; omega)
    have bK3 := bK2.kept (grownBy_putObj' W2 D (.deferred none)) (by intro h; injection h with h; omega)
    have hr4 := ownsRow_putObj hr2 (.deferred none) hK2 rfl
    rw [hys] at hr4
    have h9 := hB2.trans (belowK_b (w := w) hHle W2 D _ (.deferred none) (by have := HH.out; omega) hK2 rfl rfl)
    rw [HH.out] at h9
    refine ⟨_, results_cells2 rfl _ _ (H + 1) (H + 1 + 1) V (.bool true) rfl rfl (load_boxL (.inl rfl) bR3) (load_boxL (.inr rfl) bK3), ?_⟩
    rw [HV.out] at hr4 ⊢
    exact ⟨_, _, _, rfl, Reads.of_own hr4, h9⟩
  case stop =>
    rintro D c pre W _ _ h _
    exact h.elim
end Go.Proofs.Ytabhhccdbfjigaa

namespace Go.Proofs.Ytabhhccdbfjigaa
open Go.Shelf Go.RowKit
set_option linter.unusedVariables false
def renB : Go.Shelf.Ren := ⟨fun | 166 => 33 | 240 => 69 | 276 => 93 | 170 => 32 | 169 => 34 | n => n, fun | 0 => 0 | 3 => 3 | 4 => 4 | 5 => 5 | 9 => 9 | 20 => 20 | 37 => 60 | 70 => 62 | 72 => 64 | 75 => 72 | 80 => 75 | 164 => 121 | 127 => 106 | n => n, fun | n => n⟩
theorem laysB : Go.Proofs.Lays.n166 Try.prog renB := {
  mixed := by kernel_rfl
  f166 := Try.func33.trans (congrArg some (by kernel_rfl))
  f240 := Try.func69.trans (congrArg some (by kernel_rfl))
  f276 := Try.func93.trans (congrArg some (by kernel_rfl))
  t0 := Try.underlying0
  a0 := Try.isAgg0
  z0 := Try.sizeOf0
  v0 := Try.zeroValue0
  t3 := Try.underlying3
  a3 := Try.isAgg3
  z3 := Try.sizeOf3
  v3 := Try.zeroValue3
  t4 := Try.underlying4
  a4 := Try.isAgg4
  z4 := Try.sizeOf4
  v4 := Try.zeroValue4
  t9 := Try.underlying9
  a9 := Try.isAgg9
  z9 := Try.sizeOf9
  v9 := Try.zeroValue9
  t20 := Try.underlying20
  a20 := Try.isAgg20
  z20 := Try.sizeOf20
  v20 := Try.zeroValue20
  t37 := Try.underlying60
  a37 := Try.isAgg60
  z37 := Try.sizeOf60
  v37 := Try.zeroValue60
  t70 := Try.underlying62
  a70 := Try.isAgg62
  z70 := Try.sizeOf62
  v70 := Try.zeroValue62
  t72 := Try.underlying64
  a72 := Try.isAgg64
  z72 := Try.sizeOf64
  v72 := Try.zeroValue64
  t75 := Try.underlying72
  a75 := Try.isAgg72
  z75 := Try.sizeOf72
  v75 := Try.zeroValue72
  t164 := Try.underlying121
  a164 := Try.isAgg121
  z164 := Try.sizeOf121
  v164 := Try.zeroValue121 }
theorem extraB : Builder.Extra Try.prog renB := {
  sizeBuilder := by kernel_rfl
  liesBuilder := by kernel_rfl
  t5 := Try.underlying5
  a5 := Try.isAgg5
  z5 := Try.sizeOf5
  v5 := Try.zeroValue5
  infoByte := by kernel_rfl
  cellsByte := by kernel_rfl
  sizeByte := by kernel_rfl
  neB5 := by decide }
theorem laysBL : Go.Proofs.Lays.n170 Try.prog renB := {
  mixed := by kernel_rfl
  f170 := Try.func32.trans (congrArg some (by kernel_rfl))
  t0 := Try.underlying0
  a0 := Try.isAgg0
  z0 := Try.sizeOf0
  v0 := Try.zeroValue0
  t3 := Try.underlying3
  a3 := Try.isAgg3
  z3 := Try.sizeOf3
  v3 := Try.zeroValue3
  t37 := Try.underlying60
  a37 := Try.isAgg60
  z37 := Try.sizeOf60
  v37 := Try.zeroValue60
  t70 := Try.underlying62
  a70 := Try.isAgg62
  z70 := Try.sizeOf62
  v70 := Try.zeroValue62
  t72 := Try.underlying64
  a72 := Try.isAgg64
  z72 := Try.sizeOf64
  v72 := Try.zeroValue64 }
theorem laysBS : Go.Proofs.Lays.n169 Try.prog renB := {
  mixed := by kernel_rfl
  f169 := Try.func34.trans (congrArg some (by kernel_rfl))
  t0 := Try.underlying0
  a0 := Try.isAgg0
  z0 := Try.sizeOf0
  v0 := Try.zeroValue0
  t3 := Try.underlying3
  a3 := Try.isAgg3
  z3 := Try.sizeOf3
  v3 := Try.zeroValue3
  t9 := Try.underlying9
  a9 := Try.isAgg9
  z9 := Try.sizeOf9
  v9 := Try.zeroValue9
  t37 := Try.underlying60
  a37 := Try.isAgg60
  z37 := Try.sizeOf60
  v37 := Try.zeroValue60
  t70 := Try.underlying62
  a70 := Try.isAgg62
  z70 := Try.sizeOf62
  v70 := Try.zeroValue62
  t72 := Try.underlying64
  a72 := Try.isAgg64
  z72 := Try.sizeOf64
  v72 := Try.zeroValue64
  t127 := Try.underlying106
  a127 := Try.isAgg106
  z127 := Try.sizeOf106
  v127 := Try.zeroValue106 }
/-- A builder of the call's own, in block b, that holds these bytes. -/
abbrev IsBd (b : Nat) (l : List UInt8) (w : World) : Prop := Lib.IsBuilderF 64 5 b b (Lib.byteCells l) w
theorem IsBd.lt {b : Nat} {l : List UInt8} {w : World} (h : IsBd b l w) : b < w.heap.size := by
  rcases h with h | h
  · exact h.lt
  · exact h.lt
theorem blen_any (b : Nat) (l : List UInt8) (w : World) (h : IsBd b l w) :
    Calls Try.prog 32 #[.pointer (some ⟨b, 0, none⟩)] w fun e w' => e = .returned (.int .i64 l.length) ∧ w' = w := by
  have hc := Any.Builder_Len_f laysBL b b _ w h
  rw [Lib.byteCells_length] at hc
  exact hc
theorem bwrite_any (b : Nat) (l : List UInt8) (s : ByteArray) (w : World) (h : IsBd b l w) (hl : l.length + s.size ≤ 140737488355328) :
    Calls Try.prog 33 #[.pointer (some ⟨b, 0, none⟩), .string s] w fun e w' => e = .returned (.tuple #[.int .i64 s.size, .nilIface]) ∧ IsBd b (l ++ s.data.toList) w' ∧ Below b w w' ∧ Lib.OthersKept 5 (some b) w w' := by
  have hc := Any.Builder_WriteString_k laysB extraB b b _ s w h (by rw [Lib.byteCells_length]; exact hl) (Nat.le_of_lt h.lt)
  refine hc.mono fun e w' ⟨he, h1, h2, h3⟩ => ⟨he, ?_, h2, h3⟩
  show Lib.IsBuilderF _ _ _ _ (Lib.byteCells (l ++ s.data.toList)) _
  rw [show Lib.byteCells (l ++ s.data.toList) = Lib.byteCells l ++ Lib.byteCells s.data.toList by simp [Lib.byteCells]]
  exact .inr h1
theorem bstring_any (b : Nat) (l : List UInt8) (w : World) (h : IsBd b l w) :
    Calls Try.prog 34 #[.pointer (some ⟨b, 0, none⟩)] w fun e w' => e = .returned (.string ⟨l.toArray⟩) ∧ IsBd b l w' ∧ Below b w w' ∧ Lib.OthersKept 5 (some b) w w' :=
  Any.Builder_String_any_k laysBS extraB b b l w h (Nat.le_of_lt h.lt)
end Go.Proofs.Ytabhhccdbfjigaa
