/-
  Contract of chain.List: the numbers that a chain of free lists holds.
-/
import Derived.Test.YtabhhccdbfjigaaJ35
import Derived.Test.YtabhhccdbfjigaaJ38
import Derived.BigGuardIn
import Derived.BigGuardPartIn
namespace Go.Proofs.Ytabhhccdbfjigaa
open Go.RowKit Go.Shelf

set_option linter.unusedVariables false
set_option linter.unusedSimpArgs false
attribute [local go_sem] Oper.semAt_some

theorem infoSl : (Try.prog.info? 32).map (fun i => (i.zero, i.size, i.bytes)) = some (some (.slice none 0 0), 1, 24) := by kernel_rfl
theorem ls_stop {w W W3 : World} {H B : Nat} {u1 u2 u3 v1 v2 v3 : Value} (h1 : Boxed W3 H 32 u1) (h2 : Boxed W3 (H + 1) 32 u2) (h3 : Boxed W3 (H + 1 + 1) 25 u3) (hF : KeepsFrom B W W3) (hB : Below H w W3) :
    KeepsFrom B W (((W3.setCell ⟨H, 0, none⟩ v1).setCell ⟨H + 1, 0, none⟩ v2).setCell ⟨H + 1 + 1, 0, none⟩ v3) ∧ Boxed (((W3.setCell ⟨H, 0, none⟩ v1).setCell ⟨H + 1, 0, none⟩ v2).setCell ⟨H + 1 + 1, 0, none⟩ v3) H 32 v1 ∧ Boxed (((W3.setCell ⟨H, 0, none⟩ v1).setCell ⟨H + 1, 0, none⟩ v2).setCell ⟨H + 1 + 1, 0, none⟩ v3) (H + 1) 32 v2 ∧ Boxed (((W3.setCell ⟨H, 0, none⟩ v1).setCell ⟨H + 1, 0, none⟩ v2).setCell ⟨H + 1 + 1, 0, none⟩ v3) (H + 1 + 1) 25 v3 ∧ Below H w (((W3.setCell ⟨H, 0, none⟩ v1).setCell ⟨H + 1, 0, none⟩ v2).setCell ⟨H + 1 + 1, 0, none⟩ v3) ∧ (((W3.setCell ⟨H, 0, none⟩ v1).setCell ⟨H + 1, 0, none⟩ v2).setCell ⟨H + 1 + 1, 0, none⟩ v3).heap.size = W3.heap.size := by
  refine ⟨hF.trans ((((KeepsOthers.setCell _ _ _).trans (KeepsOthers.setCell _ _ _)).trans (KeepsOthers.setCell _ _ _)).from _), ?_, ?_, ?_, ?_, by simp [World.setCell]⟩
  · exact ((h1.set v1).other (by omega) v2).other (by omega) v3
  · exact ((h2.other (by omega) v1).set v2).other (by omega) v3
  · exact ((h3.other (by omega) v1).other (by omega) v2).set v3
  · exact ((hB.setCell (p := ⟨H, 0, none⟩) (Nat.le_refl H) _).setCell (p := ⟨H + 1, 0, none⟩) (show H ≤ H + 1 by omega) _).setCell (p := ⟨H + 1 + 1, 0, none⟩) (show H ≤ H + 1 + 1 by omega) _
theorem ls_row {W3 : World} {H base n : Nat} {V v1 v2 v3 : Value} {xs : List Value} (hb : H + 2 < base) (hr : W3.ownsRow base 29 1 V n xs) : (((W3.setCell ⟨H, 0, none⟩ v1).setCell ⟨H + 1, 0, none⟩ v2).setCell ⟨H + 1 + 1, 0, none⟩ v3).ownsRow base 29 1 V n xs := by
  have r1 := hr.kept (grownBy_setCell' W3 H v1) (.inr (fun e => own_ne hr (by omega) e.symm))
  have r2 := r1.kept (grownBy_setCell' _ (H + 1) v2) (.inr (fun e => own_ne r1 (by omega) e.symm))
  exact r2.kept (grownBy_setCell' _ (H + 1 + 1) v3) (.inr (fun e => own_ne r2 (by omega) e.symm))
set_option maxRecDepth 100000 in
set_option maxHeartbeats 12800000 in
theorem hlist_any (size : Int) (s : ByteArray) (head : Nat) (w : World) (hs : s.size ≤ 1000000) (hh : head < 4294967296) :
    Calls Try.prog 13 #[.int .i64 size, .string s, .int .u32 head] w (ListPost size (listV size s head) w) := by
  obtain ⟨i0, hi, hz0, hz1, hz2⟩ := info_parts infoU32
  obtain ⟨j0, hj, hy0, hy1, hy2⟩ := info_parts infoSl
  refine (callsIn_wide (n := 5)).1 ?_
  refine callsIn_of_wp_marks Try.func13 rfl trivial ?_ rfl
  simp only [Try.ntmps13, List.size_toArray, List.length_cons, List.length_nil, Nat.reduceAdd, Nat.reduceSub, Array.replicate_succ, Array.replicate_zero, List.push_toArray, List.append_toArray, List.nil_append, List.cons_append]
  rcases hg : goodSize size with _ | _
  · gi_wp2_with (refine ⟨trivial, ?_⟩; gi_at_call 29; refine (callsIn_wide.2 (dgood_is size false _ hg)).mono ?_; rintro e w' ⟨rfl, rfl⟩)
    obtain ⟨W2, hW2⟩ : ∃ W2, W2 = (((w.alloc (.cells #[.slice none 0 0] 32)).alloc (.cells #[.slice none 0 0] 32)).alloc (.cells #[.int .i64 2] 25)) := ⟨_, rfl⟩
    have k1 : Boxed W2 w.heap.size 32 (.slice none 0 0) := by
      rw [hW2]
      exact ((Boxed.new w 32 (.slice none 0 0)).alloc (.cells #[.slice none 0 0] 32)).alloc (.cells #[.int .i64 2] 25)
    have k2 : Boxed W2 (w.heap.size + 1) 32 (.slice none 0 0) := by
      rw [hW2]
      have := (Boxed.new (w.alloc (.cells #[.slice none 0 0] 32)) 32 (.slice none 0 0)).alloc (.cells #[.int .i64 2] 25)
      simpa [Nat.add_assoc] using this
    have k3 : Boxed W2 (w.heap.size + 1 + 1) 25 (.int .i64 2) := by
      rw [hW2]
      have := Boxed.new ((w.alloc (.cells #[.slice none 0 0] 32)).alloc (.cells #[.slice none 0 0] 32)) 25 (.int .i64 2)
      simpa [Nat.add_assoc] using this
    have kB : Below w.heap.size w W2 := by
      rw [hW2]
      exact (((Below.refl _ w).alloc (by simp) _).alloc (by simp) _).alloc (by simp; omega) _
    rw [← hW2]
    refine ⟨_, results_cells3 rfl _ _ _ _ _ _ _ _ rfl rfl rfl (load_boxR (.inr (.inl rfl)) k1) (load_boxR (.inr (.inl rfl)) k2) (load_boxR (.inr (.inr rfl)) k3), ?_⟩
    unfold ListPost
    rw [if_neg (by rw [hg]; simp)]
    exact ⟨rfl, kB⟩
  gi_wp2_with (first
    | (refine ⟨trivial, ?_⟩; gi_at_call 29; refine (callsIn_wide.2 (dgood_is size true _ hg)).mono ?_; rintro e w' ⟨rfl, rfl⟩)
    | (refine ⟨trivial, ?_⟩; gi_at_call 30; refine (callsIn_wide.2 (fmake_any size s head 6 _)).mono ?_; rintro e w' ⟨rfl, rfl⟩))
  have HFl := Lib.hid (follow_le (size := size) (s := s) (kd := 6) (head := head))
  have HF2 := Lib.hid (follow_le2 (kd := 6) (head := head) hg hs)
  obtain ⟨H, hH⟩ : ∃ H, H = w.heap.size := ⟨_, rfl⟩
  obtain ⟨W0, hW0⟩ : ∃ W0, W0 = ((((((((w.alloc (.cells #[.slice none 0 0] 32)).alloc (.cells #[.slice none 0 0] 32)).alloc (.cells #[.int .i64 0] 25)).alloc (.cells #[.slice none 0 0] 77)).alloc (.cells #[.int .i64 size] 3)).alloc (.cells #[.string s] 9)).alloc (.cells #[.int .u32 head] 29)).alloc (.cells #[.int .i64 6] 3)) := ⟨_, rfl⟩
  have hsz : W0.heap.size = H + 8 := by rw [hW0, hH]; simp
  have bN : Boxed W0 (H) 32 (.slice none 0 0) := by
    rw [hW0, hH]
    have := (((((((Boxed.new w 32 (.slice none 0 0)).alloc (.cells #[.slice none 0 0] 32)).alloc (.cells #[.int .i64 0] 25)).alloc (.cells #[.slice none 0 0] 77)).alloc (.cells #[.int .i64 size] 3)).alloc (.cells #[.string s] 9)).alloc (.cells #[.int .u32 head] 29)).alloc (.cells #[.int .i64 6] 3)
    simpa [Nat.add_assoc] using this
  have bP : Boxed W0 (H + 1) 32 (.slice none 0 0) := by
    rw [hW0, hH]
    have := ((((((Boxed.new (w.alloc (.cells #[.slice none 0 0] 32)) 32 (.slice none 0 0)).alloc (.cells #[.int .i64 0] 25)).alloc (.cells #[.slice none 0 0] 77)).alloc (.cells #[.int .i64 size] 3)).alloc (.cells #[.string s] 9)).alloc (.cells #[.int .u32 head] 29)).alloc (.cells #[.int .i64 6] 3)
    simpa [Nat.add_assoc] using this
  have bE : Boxed W0 (H + 1 + 1) 25 (.int .i64 0) := by
    rw [hW0, hH]
    have := (((((Boxed.new ((w.alloc (.cells #[.slice none 0 0] 32)).alloc (.cells #[.slice none 0 0] 32)) 25 (.int .i64 0)).alloc (.cells #[.slice none 0 0] 77)).alloc (.cells #[.int .i64 size] 3)).alloc (.cells #[.string s] 9)).alloc (.cells #[.int .u32 head] 29)).alloc (.cells #[.int .i64 6] 3)
    simpa [Nat.add_assoc] using this
  have bO : Boxed W0 (H + 1 + 1 + 1) 77 (.slice none 0 0) := by
    rw [hW0, hH]
    have := ((((Boxed.new (((w.alloc (.cells #[.slice none 0 0] 32)).alloc (.cells #[.slice none 0 0] 32)).alloc (.cells #[.int .i64 0] 25)) 77 (.slice none 0 0)).alloc (.cells #[.int .i64 size] 3)).alloc (.cells #[.string s] 9)).alloc (.cells #[.int .u32 head] 29)).alloc (.cells #[.int .i64 6] 3)
    simpa [Nat.add_assoc] using this
  have b2 : Boxed W0 (H + 1 + 1 + 1 + 1) 3 (.int .i64 size) := by
    rw [hW0, hH]
    have := (((Boxed.new ((((w.alloc (.cells #[.slice none 0 0] 32)).alloc (.cells #[.slice none 0 0] 32)).alloc (.cells #[.int .i64 0] 25)).alloc (.cells #[.slice none 0 0] 77)) 3 (.int .i64 size)).alloc (.cells #[.string s] 9)).alloc (.cells #[.int .u32 head] 29)).alloc (.cells #[.int .i64 6] 3)
    simpa [Nat.add_assoc] using this
  have b3 : Boxed W0 (H + 1 + 1 + 1 + 1 + 1) 9 (.string s) := by
    rw [hW0, hH]
    have := ((Boxed.new (((((w.alloc (.cells #[.slice none 0 0] 32)).alloc (.cells #[.slice none 0 0] 32)).alloc (.cells #[.int .i64 0] 25)).alloc (.cells #[.slice none 0 0] 77)).alloc (.cells #[.int .i64 size] 3)) 9 (.string s)).alloc (.cells #[.int .u32 head] 29)).alloc (.cells #[.int .i64 6] 3)
    simpa [Nat.add_assoc] using this
  have b1 : Boxed W0 (H + 1 + 1 + 1 + 1 + 1 + 1) 29 (.int .u32 head) := by
    rw [hW0, hH]
    have := (Boxed.new ((((((w.alloc (.cells #[.slice none 0 0] 32)).alloc (.cells #[.slice none 0 0] 32)).alloc (.cells #[.int .i64 0] 25)).alloc (.cells #[.slice none 0 0] 77)).alloc (.cells #[.int .i64 size] 3)).alloc (.cells #[.string s] 9)) 29 (.int .u32 head)).alloc (.cells #[.int .i64 6] 3)
    simpa [Nat.add_assoc] using this
  have b4 : Boxed W0 (H + 1 + 1 + 1 + 1 + 1 + 1 + 1) 3 (.int .i64 6) := by
    rw [hW0, hH]
    have := Boxed.new (((((((w.alloc (.cells #[.slice none 0 0] 32)).alloc (.cells #[.slice none 0 0] 32)).alloc (.cells #[.int .i64 0] 25)).alloc (.cells #[.slice none 0 0] 77)).alloc (.cells #[.int .i64 size] 3)).alloc (.cells #[.string s] 9)).alloc (.cells #[.int .u32 head] 29)) 3 (.int .i64 6)
    simpa [Nat.add_assoc] using this
  have hB0 : Below H w W0 := by
    rw [hW0, hH]
    exact ((((((((Below.refl _ w).alloc (by simp) _).alloc (by simp) _).alloc (by simp; omega) _).alloc (by simp; omega) _).alloc (by simp; omega) _).alloc (by simp; omega) _).alloc (by simp; omega) _).alloc (by simp; omega) _
  rw [← hW0]
  rw [← hH]
  have hHle : H ≤ w.heap.size := by omega
  have HH := Lib.hid hH
  have h8 : H + 8 ≤ W0.heap.size := by omega
  have HHs := Lib.hid hs
  have HG := Lib.hid hg
  clear hW0 hH hsz hg
  refine wpIn_rangeFunc_ownH (F := Fence.wide) rfl (by decide) (gf := 66) (lb := #[.pointer (some ⟨H + 1 + 1 + 1 + 1 + 1 + 1, 0, none⟩), .pointer (some ⟨H + 1 + 1 + 1 + 1, 0, none⟩), .pointer (some ⟨H + 1 + 1 + 1 + 1 + 1, 0, none⟩), .pointer (some ⟨H + 1 + 1 + 1 + 1 + 1 + 1 + 1, 0, none⟩)]) rfl trivial (enters_of Try.func66 (by kernel_rfl) rfl)
    (ffollow_stops (5 - 1) (by decide) (H + 1 + 1 + 1 + 1 + 1 + 1) (H + 1 + 1 + 1 + 1) (H + 1 + 1 + 1 + 1 + 1) (H + 1 + 1 + 1 + 1 + 1 + 1 + 1) size s head 6 hs hh W0 b1 b2 b3 b4) (fun h k => kpF_t h k) (fun W l o o' hl h hc hw => kpF_b W l o o' hl h hc hw) (Below.refl _ _) (fun _ => rfl)
    (fun pre W => (∃ (ls : List (List Nat)) (V U : Value) (cs : List Value), accU (pre.map (·.1)) = some ls ∧ ls.flatten.length ≤ mostN size * pre.length ∧ Boxed W (H + 1 + 1 + 1) 77 V ∧ W.ownsRow (H + 8) 32 1 V pre.length cs ∧ Boxed W (H + 1) 32 U ∧ W.ownsRow (H + 8) 29 1 U pre.length (ucells (pre.map (·.1.p.pg))) ∧ LsAt W U.ownBlock cs ls) ∧ Boxed W H 32 (.slice none 0 0) ∧ Boxed W (H + 1 + 1) 25 (.int .i64 0) ∧ Below H w W ∧ H + 8 ≤ W.heap.size)
    (fun c pre W => c = .ret ∧ accU (pre.map (·.1)) = none ∧ Boxed W H 32 (.slice none 0 0) ∧ Boxed W (H + 1) 32 (.slice none 0 0) ∧ Boxed W (H + 1 + 1) 25 (.int .i64 4) ∧ Below H w W)
    (by
      rintro pre W W' row ⟨⟨ls, V, U, cs, h1, h2, h3, h4, h5, h6, h7⟩, h8, h9, h10, h11⟩ hg hr
      have hr' := fun r e => (hr r e).2
      exact ⟨⟨ls, V, U, cs, h1, h2, cells_own h3 hg hr', row_own h4 hg hr', cells_own h5 hg hr', row_own h6 hg hr', h7.own hg hr'⟩, cells_own h8 hg hr', cells_own h9 hg hr', ownFrom_below (β := Unit) hHle (by omega) () W W' row h10 hg hr, Nat.le_trans h11 hg.size⟩)
    (by
      rintro c pre W W' row ⟨h1, h2, h3, h4, h5, h6⟩ hg hr
      have hr' := fun r e => (hr r e).2
      exact ⟨h1, h2, cells_own h3 hg hr', cells_own h4 hg hr', cells_own h5 hg hr', ownFrom_below (β := Unit) hHle (by omega) () W W' row h6 hg hr⟩)
    ⟨⟨[], _, _, [], rfl, Nat.zero_le _, bO, World.ownsRow_nil _ _ _ _, bP, World.ownsRow_nil _ _ _ _, LsAt.nil _ _⟩, bN, bE, hB0, h8⟩
    (fun x a' W => ∃ Bx, Boxed' W Bx x.1.p ∧ a' = { tmps := #[.int .i64 size, .string s, .int .u32 head, undef, undef, undef, .pointer (some ⟨H, 0, none⟩), .pointer (some ⟨H + 1, 0, none⟩), .pointer (some ⟨H + 1 + 1, 0, none⟩), .pointer (some ⟨H + 1 + 1 + 1, 0, none⟩), .pointer (some ⟨Bx, 0, none⟩), .int .i64 x.1.e, undef, undef, undef, .int .i64 size, .bool true, .bool false, .int .i64 size, .string s, .int .u32 head, .func (.func 66) #[] #[.pointer (some ⟨H + 1 + 1 + 1 + 1 + 1 + 1, 0, none⟩), .pointer (some ⟨H + 1 + 1 + 1 + 1, 0, none⟩), .pointer (some ⟨H + 1 + 1 + 1 + 1 + 1, 0, none⟩), .pointer (some ⟨H + 1 + 1 + 1 + 1 + 1 + 1 + 1, 0, none⟩)], .agg #[.int .i64 x.1.p.kd, .int .i64 x.1.p.ct, .int .u32 x.1.p.pg, .int .u32 x.1.p.lk, .int .u64 x.1.p.tx, .string x.1.p.bd], .int .i64 x.1.e, undef, undef, undef, undef, undef, undef, undef, undef, undef, undef, undef, undef, undef, undef, undef, undef, undef, undef, undef, undef, undef, undef, undef, undef, undef, undef, undef, undef], defers := [] })
    (fun x a' _ X Y row hs hg hr => by obtain ⟨Bx, e2, e3⟩ := hs; exact ⟨Bx, boxed'_kept e2 hg (fun r e => (hr r e).2), e3⟩)
    ?assign ?body ?done ?stop
  case assign =>
    rintro l pre x W K ⟨⟨ls, V, U, cs, h1, h2, h3, h4, h5, h6, h7⟩, h8, h9, h10, h11⟩ hK
    gi_wp2
    exact hK _ _ ((KeepsOthers.alloc _ _).from _) (kpF_alloc _ _) ⟨⟨ls, V, U, cs, h1, h2, h3.alloc _, h4.alloc _, h5.alloc _, h6.alloc _, h7.grown (World.grownBy_alloc _ _ none) (by simp)⟩, h8.alloc _, h9.alloc _, h10.alloc (Nat.le_trans hHle h10.size) _, by simp; omega⟩ ⟨W.heap.size, Blk.new _ _ _, rfl⟩
  case body =>
    rintro l pre x a' W hl _ ⟨⟨ls, V, U, cs, hls, hl4, hV, hrV, hU, hrU, hLs⟩, hN, hE, hB, hS⟩ ⟨Bx, bX, rfl⟩ hlt
    have hll := HFl.out
    have hs9 := HHs.out
    have c0 := bX.cell 0
    have c1 := bX.cell 1
    have c2 := bX.cell 2
    have c3 := bX.cell 3
    have c4 := bX.cell 4
    have c5 := bX.cell 5
    simp at c0 c1 c2 c3 c4 c5
    obtain ⟨hbd, hpg⟩ := follow_small x.2
    have HOf := fun w => fof10_own x.1.p.kd x.1.p.ct x.1.p.pg x.1.p.lk x.1.p.tx x.1.p.bd w (by omega)
    obtain ⟨AV, cV, rfl, _, _, _⟩ := own_form hrV
    obtain ⟨AU, cU, rfl, _, _, _⟩ := own_form hrU
    rcases hov : x.1.p.free with _ | t
    · have hbad : accU ((pre ++ [x]).map (·.1)) = none := by
        rw [List.map_append, List.map_cons, List.map_nil, accU_snoc, hls]
        unfold stepU2
        rw [hov]
        simp
      have HBad := Lib.hid hbad
      rw [show readU x.1.p.kd x.1.p.ct x.1.p.pg x.1.p.lk x.1.p.tx x.1.p.bd = none from hov] at HOf
      clear hbad hov
      gi_upto_region 8 with (refine ⟨trivial, ?_⟩; gi_at_call 42; refine (CallsIn.inRound l (callsIn_wide.2 (HOf _))).mono ?_; rintro e W2 ⟨rfl, hb2⟩)
      have hV2 := hV.kept (grown_of_below hb2) (by simp)
      have hrV2 := own_below hrV hb2
      have hU2 := hU.kept (grown_of_below hb2) (by simp)
      have hrU2 := own_below hrU hb2
      have hLs2 := hLs.below hb2
      have hN2 := hN.kept (grown_of_below hb2) (by simp)
      have hE2 := hE.kept (grown_of_below hb2) (by simp)
      have bX2 : Boxed' W2 Bx x.1.p := Blk.grown bX (grown_of_below hb2) (by simp)
      have hB2 := hB.trans (hb2.mono (Nat.le_trans hHle hB.size))
      have hF2 : KeepsFrom W0.heap.size W W2 := KeepsFrom.of_grownBy (grown_of_below hb2) (by simp)
      have hk2 := kpF_below hb2
      have hS2 : H + 8 ≤ W2.heap.size := Nat.le_trans hS hb2.size
      clear hb2 hV hrV hU hrU hLs hN hE bX hB hS c0 c1 c2 c3 c4 c5
      by_cases he : x.1.e = 0
      · have hez : (x.1.e != 0) = false := by simp [he]
        have hU2c := hU2.cell
        have hU2f := hU2.frozen
        have hN2c := hN2.cell
        have hN2f := hN2.frozen
        have hE2c := hE2.cell
        have hE2f := hE2.frozen
        gi_wp2
        obtain ⟨q1, q2, q3, q4, q5, _⟩ := ls_stop (v1 := .slice none 0 0) (v2 := .slice none 0 0) (v3 := .int .i64 4) hN2 hU2 hE2 hF2 hB2
        exact ⟨q1, ⟨rfl, HBad.out, q2, q3, q4, q5⟩⟩
      · have hez : (x.1.e != 0) = true := by simp [he]
        have hU2c := hU2.cell
        have hU2f := hU2.frozen
        have hN2c := hN2.cell
        have hN2f := hN2.frozen
        have hE2c := hE2.cell
        have hE2f := hE2.frozen
        gi_wp2
        obtain ⟨q1, q2, q3, q4, q5, _⟩ := ls_stop (v1 := .slice none 0 0) (v2 := .slice none 0 0) (v3 := .int .i64 4) hN2 hU2 hE2 hF2 hB2
        exact ⟨q1, ⟨rfl, HBad.out, q2, q3, q4, q5⟩⟩
    · have he : x.1.e = 0 ∧ mayPg size x.1.p.kd x.1.p.ct x.1.p.pg x.1.p.lk x.1.p.tx x.1.p.bd = true := by
        rcases follow_ok x.2 with h | h
        · rw [h, zero_free] at hov; cases hov
        · exact h
      have htl := free_lenF he.2 hov
      have he := he.1
      have hacc : accU ((pre ++ [x]).map (·.1)) = some (ls ++ [t]) := by
        rw [List.map_append, List.map_cons, List.map_nil, accU_snoc, hls]
        unfold stepU2
        rw [if_pos he, hov]
      have HAc := Lib.hid hacc
      rw [show readU x.1.p.kd x.1.p.ct x.1.p.pg x.1.p.lk x.1.p.tx x.1.p.bd = some t from hov] at HOf
      have hez : (x.1.e != 0) = false := by simp [he]
      clear hov hacc
      gi_upto_region 8 with (refine ⟨trivial, ?_⟩; gi_at_call 42; refine (CallsIn.inRound l (callsIn_wide.2 (HOf _))).mono ?_; rintro e W2 ⟨A1, n1, cc1, rfl, hown1, hb2⟩)
      have hV2 := hV.kept (grown_of_below hb2) (by simp)
      have hrV2 := own_below hrV hb2
      have hU2 := hU.kept (grown_of_below hb2) (by simp)
      have hrU2 := own_below hrU hb2
      have hLs2 := hLs.below hb2
      have hN2 := hN.kept (grown_of_below hb2) (by simp)
      have hE2 := hE.kept (grown_of_below hb2) (by simp)
      have bX2 : Boxed' W2 Bx x.1.p := Blk.grown bX (grown_of_below hb2) (by simp)
      have hB2 := hB.trans (hb2.mono (Nat.le_trans hHle hB.size))
      have hF2 : KeepsFrom W0.heap.size W W2 := KeepsFrom.of_grownBy (grown_of_below hb2) (by simp)
      have hk2 := kpF_below hb2
      have hS2 : H + 8 ≤ W2.heap.size := Nat.le_trans hS hb2.size
      have hown2 : W2.ownsRow 0 29 1 (.slice A1 n1 cc1) n1 (ucells t) := own_low hown1 (Nat.zero_le _)
      have hLt : LsAt W2 (Value.slice AU pre.length cU).ownBlock (cs ++ [.slice A1 n1 cc1]) (ls ++ [t]) := hLs2.snoc hown2 (fun hne e => by
        rcases hb : (Value.slice A1 n1 cc1).ownBlock with _ | b
        · exact hne hb
        · have h1 := own_base hown1 b hb
          rw [hb] at e
          have h2 := (hrU.lt b e.symm).2
          omega)
      clear hb2 hV hrV hU hrU hLs hN hE bX hB hS hLs2 hown1 hown2 c0 c1 c2 c3 c4 c5
      have hV2c := hV2.cell
      gi_upto_region 11 with (gi_at_builtin; refine wpListIn_append_own _ rfl _ _ 77 rfl (H + 8) 32 j0 _ 1 24 Try.underlying77 hj hy0 hy1 hy2 rfl (by decide) _ _ _ rfl (hrV2.alloc _) ⟨W2.heap.size, 0, none⟩ 1 1 [.slice A1 n1 cc1] rfl rfl (cell_one_new _ _ _) (by simp [Value.oneCell']) (by unfold maxLen; omega) (by omega) (by simp; omega) ?_; intro v' w1 hown' hgrow _; obtain ⟨g1, cap1, rfl⟩ := ownsRow_succ hown'; obtain ⟨hv1, hv2, hr2, hko2, hb2⟩ := appended2 (H := H) hV2 (by omega) (by omega) hrV2 hS2 hown' hgrow; have hc1 := hv1.cell; have hf1 := hv1.frozen)
      have hgr : (W2.alloc (.cells #[.slice A1 n1 cc1] 32)).grownBy w1 (Value.slice AV pre.length cV).ownBlock := hgrow
      obtain ⟨W6, hW6⟩ : ∃ W6, W6 = (w1.setCell ⟨H + 1 + 1 + 1, 0, none⟩ (.slice (some ⟨g1, 0, none⟩) (pre.length + 1) cap1)) := ⟨_, rfl⟩
      have hrk := row_kind hrV2 (.cells #[.slice A1 n1 cc1] 32)
      have hV6 : Boxed W6 (H + 1 + 1 + 1) 77 (.slice (some ⟨g1, 0, none⟩) (pre.length + 1) cap1) := by rw [hW6]; exact hv2
      have hrV6 : W6.ownsRow (H + 8) 32 1 (.slice (some ⟨g1, 0, none⟩) (pre.length + 1) cap1) (pre.length + 1) (cs ++ [.slice A1 n1 cc1]) := by rw [hW6]; exact hr2
      have hU6 : Boxed W6 (H + 1) 32 (.slice AU pre.length cU) := by rw [hW6]; exact ((hU2.alloc _).kept hgr (own_ne hrV2 (by omega))).other (by omega) _
      have hN6 : Boxed W6 H 32 (.slice none 0 0) := by rw [hW6]; exact ((hN2.alloc _).kept hgr (own_ne hrV2 (by omega))).other (by omega) _
      have hE6 : Boxed W6 (H + 1 + 1) 25 (.int .i64 0) := by rw [hW6]; exact ((hE2.alloc _).kept hgr (own_ne hrV2 (by omega))).other (by omega) _
      have hrU5 : w1.ownsRow (H + 8) 29 1 (.slice AU pre.length cU) pre.length (ucells (pre.map (·.1.p.pg))) := by
        refine (hrU2.alloc (.cells #[.slice A1 n1 cc1] 32)).kept hgr ?_
        rcases hb : (Value.slice AU pre.length cU).ownBlock with _ | b
        · exact .inl rfl
        · refine .inr fun e => ?_
          obtain ⟨o, h1, h2⟩ := hrk b e.symm
          obtain ⟨o3, h3, h4⟩ := row_kind hrU2 (.cells #[.slice A1 n1 cc1] 32) b hb
          rw [h1] at h3
          cases h3
          cases o <;> first | cases h2 | (rename_i _ tt _; simp only [beq_iff_eq] at h2 h4; rw [h2] at h4; exact absurd h4 (by decide))
      have hrU6 : W6.ownsRow (H + 8) 29 1 (.slice AU pre.length cU) pre.length (ucells (pre.map (·.1.p.pg))) := by rw [hW6]; exact hrU5.kept (grownBy_setCell' w1 _ _) (.inr fun e => own_ne hrU5 (by omega) e.symm)
      have hLs6 : LsAt W6 (Value.slice AU pre.length cU).ownBlock (cs ++ [.slice A1 n1 cc1]) (ls ++ [t]) := by
        rw [hW6]
        refine ((hLt.grown (World.grownBy_alloc _ _ none) (by simp)).grown hgr fun r e c fz => ?_).grown (grownBy_setCell' w1 _ _) fun r e c fz => ?_
        · obtain ⟨o, h1, h2⟩ := hrk r e
          rw [h1]
          intro e'
          cases e'
          cases h2
        · cases e
          rw [show w1.heap[H + 1 + 1 + 1]? = _ from hv1]
          intro e'
          cases e'
      have bX6 : Boxed' W6 Bx x.1.p := by
        rw [hW6]
        refine Blk.grown (Blk.grown (Blk.alloc bX2 _) hgr fun e => ?_) (grownBy_setCell' w1 _ _) fun e => ?_
        · obtain ⟨o, h1, h2⟩ := hrk Bx e.symm
          rw [show (W2.alloc _).heap[Bx]? = _ from Blk.alloc bX2 _] at h1
          cases h1
          cases h2
        · have hx : w1.heap[H + 1 + 1 + 1]? = _ := hv1
          have hy : w1.heap[Bx]? = _ := Blk.grown (Blk.alloc bX2 (.cells #[.slice A1 n1 cc1] 32)) hgr (fun e => by
            obtain ⟨o, h1, h2⟩ := hrk Bx e.symm
            rw [show (W2.alloc _).heap[Bx]? = _ from Blk.alloc bX2 _] at h1
            cases h1
            cases h2)
          cases e
          rw [hx] at hy
          cases hy
      have hKp6 : KpF W W6 := by
        rw [hW6]
        exact kpF_t hk2 (kpF_t (kpF_alloc W2 _) (kpF_t (kpF_grown hgr (row_keep hrV2 (by decide) _)) (kpF_grown (grownBy_setCell' w1 _ _) (fun r e => by cases e; exact ⟨_, hv1, rfl⟩))))
      have hF6 : KeepsFrom W0.heap.size W W6 := by rw [hW6]; exact hF2.trans (hko2.from _)
      have hB6 : Below H w W6 := by rw [hW6]; exact hB2.trans hb2
      have hS6 : H + 8 ≤ W6.heap.size := by rw [hW6]; exact Nat.le_trans hS2 hb2.size
      rw [← hW6]
      clear hW6 hrk hV2 hrV2 hU2 hrU2 hN2 hE2 hLt bX2 hB2 hF2 hk2 hS2 hv1 hv2 hr2 hko2 hb2 hc1 hf1 hgr hgrow hown' hrU5 hV2c
      have hU6c := hU6.cell
      have hX6c := Blk.cell bX6 2
      simp at hX6c
      gi_wp2_with (gi_at_builtin; refine wpListIn_append_own_at _ rfl _ _ 32 rfl (H + 8) 29 i0 _ 1 4 Try.underlying32 hi hz0 hz1 hz2 rfl (by decide) _ _ _ rfl (hrU6.alloc _) ⟨W6.heap.size, 0, none⟩ 1 1 [.int .u32 x.1.p.pg] rfl rfl (cell_one_new _ _ _) (by simp [Value.oneCell']) (by unfold maxLen; omega) (by omega) (by simp; omega) ?_; intro v' w7 hown' hgrow _ hat; obtain ⟨g2, cap2, rfl⟩ := ownsRow_succ hown'; obtain ⟨hv1, hv2, hr2, hko2, hb2⟩ := appended2 (H := H) hU6 (by omega) (by omega) hrU6 hS6 hown' hgrow; have hc1 := hv1.cell; have hf1 := hv1.frozen)
      have hgr : (W6.alloc (.cells #[.int .u32 x.1.p.pg] 29)).grownBy w7 (Value.slice AU pre.length cU).ownBlock := hgrow
      have hat' : (Value.slice (some ⟨g2, 0, none⟩) (pre.length + 1) cap2).ownBlock = (Value.slice AU pre.length cU).ownBlock ∨ (Value.slice (some ⟨g2, 0, none⟩) (pre.length + 1) cap2).ownBlock = some (W6.alloc (.cells #[.int .u32 x.1.p.pg] 29)).heap.size := hat
      have hrk := row_kind hrU6 (.cells #[.int .u32 x.1.p.pg] 29)
      have kV := ((hV6.alloc _).kept hgr (own_ne hrU6 (by omega))).other (B' := H + 1) (by omega) (.slice (some ⟨g2, 0, none⟩) (pre.length + 1) cap2)
      have kN := ((hN6.alloc _).kept hgr (own_ne hrU6 (by omega))).other (B' := H + 1) (by omega) (.slice (some ⟨g2, 0, none⟩) (pre.length + 1) cap2)
      have kE := ((hE6.alloc _).kept hgr (own_ne hrU6 (by omega))).other (B' := H + 1) (by omega) (.slice (some ⟨g2, 0, none⟩) (pre.length + 1) cap2)
      have hrV7 : w7.ownsRow (H + 8) 32 1 (.slice (some ⟨g1, 0, none⟩) (pre.length + 1) cap1) (pre.length + 1) (cs ++ [.slice A1 n1 cc1]) := by
        refine (hrV6.alloc (.cells #[.int .u32 x.1.p.pg] 29)).kept hgr (.inr fun e => ?_)
        obtain ⟨o, h1, h2⟩ := hrk g1 e.symm
        obtain ⟨o3, h3, h4⟩ := row_kind hrV6 (.cells #[.int .u32 x.1.p.pg] 29) g1 rfl
        rw [h1] at h3
        cases h3
        cases o <;> first | cases h2 | (rename_i _ tt _; simp only [beq_iff_eq] at h2 h4; rw [h2] at h4; exact absurd h4 (by decide))
      have kR : (w7.setCell ⟨H + 1, 0, none⟩ (.slice (some ⟨g2, 0, none⟩) (pre.length + 1) cap2)).ownsRow (H + 8) 32 1 (.slice (some ⟨g1, 0, none⟩) (pre.length + 1) cap1) (pre ++ [x]).length (cs ++ [.slice A1 n1 cc1]) := by
        rw [List.length_append, List.length_singleton]
        exact hrV7.kept (grownBy_setCell' w7 _ _) (.inr fun e => own_ne hrV7 (by omega) e.symm)
      have kL : LsAt (w7.setCell ⟨H + 1, 0, none⟩ (.slice (some ⟨g2, 0, none⟩) (pre.length + 1) cap2)) (Value.slice (some ⟨g2, 0, none⟩) (pre.length + 1) cap2).ownBlock (cs ++ [.slice A1 n1 cc1]) (ls ++ [t]) :=
        (hLs6.app hgr hat').grown (grownBy_setCell' w7 _ _) fun r e c fz => by
          cases e
          rw [show w7.heap[H + 1]? = _ from hv1]
          intro e'
          cases e'
      have kKp : KpF W (w7.setCell ⟨H + 1, 0, none⟩ (.slice (some ⟨g2, 0, none⟩) (pre.length + 1) cap2)) := kpF_t hKp6 (kpF_t (kpF_alloc W6 _) (kpF_t (kpF_grown hgr (row_keep hrU6 (by decide) _)) (kpF_grown (grownBy_setCell' w7 _ _) (fun r e => by cases e; exact ⟨_, hv1, rfl⟩))))
      have kU : (w7.setCell ⟨H + 1, 0, none⟩ (.slice (some ⟨g2, 0, none⟩) (pre.length + 1) cap2)).ownsRow (H + 8) 29 1 (.slice (some ⟨g2, 0, none⟩) (pre.length + 1) cap2) (pre ++ [x]).length (ucells ((pre ++ [x]).map (·.1.p.pg))) := by
        rw [List.map_append, List.map_cons, List.map_nil, List.length_append, List.length_singleton, ucells_snoc]
        exact hr2
      have hfl : (ls ++ [t]).flatten.length ≤ mostN size * (pre ++ [x]).length := by
        rw [List.flatten_append, List.length_append, List.length_append, List.length_singleton, Nat.mul_add, Nat.mul_one, show [t].flatten = t by simp]
        omega
      exact ⟨hF6.trans (hko2.from _), kKp, ⟨⟨ls ++ [t], _, _, _, HAc.out, hfl, kV, kR, hv2, kU, kL⟩, kN, kE, hB6.trans hb2, Nat.le_trans hS6 hb2.size⟩⟩
  case done =>
    rintro D ys W hD hys ⟨⟨ls, V, U, cs, hls, hl4, hV, hrV, hU, hrU, hLs⟩, hN, hE, hB, hS⟩ hK
    have hls' : accU (followL size s 6 head) = some ls := by rw [← hys]; exact hls
    have hre := listV_end hls'
    have hps : (followL size s 6 head).map (·.p.pg) = ys.map (·.1.p.pg) := by have h := congrArg (List.map (fun y : Lk => y.p.pg)) hys; rw [List.map_map] at h; exact h.symm
    rw [hps] at hre
    have hyl : ys.length = (followL size s 6 head).length := by have h := congrArg List.length hys; rw [List.length_map] at h; exact h
    have hf3 : ls.flatten.length ≤ 300000 := by rw [hyl] at hl4; exact Nat.le_trans hl4 HF2.out
    have hy9 : ys.length ≤ 1000001 := by have := HFl.out; have := HHs.out; omega
    have HRe := Lib.hid hre
    obtain ⟨AV, cV, rfl, _, _, _⟩ := own_form hrV
    obtain ⟨AU, cU, rfl, _, _, _⟩ := own_form hrU
    have hVc := hV.cell
    clear hre hps hls' hls hys hyl hl4
    gi_upto_region 13 with (refine ⟨trivial, ?_⟩; gi_at_call 43; refine (callsIn_wide.2 (hjoined_any AV ys.length cV cs ls W (Reads.of_own hrV) hLs.read (by omega) (by omega))).mono ?_; rintro e W2 ⟨AJ, nJ, cJ, rfl, hownJ, hb2⟩; have hN2 := hN.kept (grown_of_below hb2) (by simp); have hN2c := hN2.cell; have hN2f := hN2.frozen)
    obtain ⟨W3, hW3⟩ : ∃ W3, W3 = W2.setCell ⟨H, 0, none⟩ (.slice AJ nJ cJ) := ⟨_, rfl⟩
    have hN3 : Boxed W3 H 32 (.slice AJ nJ cJ) := by rw [hW3]; exact hN2.set _
    have hU3 : Boxed W3 (H + 1) 32 (.slice AU ys.length cU) := by rw [hW3]; exact (hU.kept (grown_of_below hb2) (by simp)).other (by omega) _
    have hE3 : Boxed W3 (H + 1 + 1) 25 (.int .i64 0) := by rw [hW3]; exact (hE.kept (grown_of_below hb2) (by simp)).other (by omega) _
    have rJ3 : W3.ownsRow (H + 8) 29 1 (.slice AJ nJ cJ) nJ (ucells ls.flatten) := by
      have h := own_low hownJ hS
      rw [hW3]
      exact h.kept (grownBy_setCell' W2 H _) (.inr fun e => own_ne h (by omega) e.symm)
    have hrU3 : W3.ownsRow (H + 8) 29 1 (.slice AU ys.length cU) ys.length (ucells (ys.map (·.1.p.pg))) := by
      have h := own_below hrU hb2
      rw [hW3]
      exact h.kept (grownBy_setCell' W2 H _) (.inr fun e => own_ne h (by omega) e.symm)
    have hB3 : Below H w W3 := by rw [hW3]; exact (hB.trans (hb2.mono (Nat.le_trans hHle hB.size))).setCell (p := ⟨H, 0, none⟩) (Nat.le_refl H) _
    have hK3 : W3.heap[D]? = some (.deferred (some [])) := by
      rw [hW3]
      exact (KeepsOthers.setCell W2 _ _).same D _ ((hb2.block D (Array.getElem?_eq_some_iff.1 hK).1).trans hK) rfl
    have hnJ : nJ ≤ 1000000 := by
      have h := rJ3.1
      simp only [ucells, List.length_map] at h
      omega
    rw [← hW3]
    clear hW3 hV hrV hU hrU hLs hN hE hB hK hVc hb2 hN2 hN2c hN2f hownJ
    have hN3c := hN3.cell
    gi_upto_if 49 with (refine ⟨trivial, ?_⟩; gi_at_call 36; refine (callsIn_wide.2 (frises_any AJ nJ cJ ls.flatten W3 (Reads.of_own rJ3) hnJ)).mono ?_; rintro e W4 ⟨rfl, hb4⟩)
    have hN4 := hN3.kept (grown_of_below hb4) (by simp)
    have hU4 := hU3.kept (grown_of_below hb4) (by simp)
    have hE4 := hE3.kept (grown_of_below hb4) (by simp)
    have rJ4 := own_below rJ3 hb4
    have hrU4 := own_below hrU3 hb4
    have hB4 := hB3.trans (hb4.mono (Nat.le_trans hHle hB3.size))
    have hK4 : W4.heap[D]? = some (.deferred (some [])) := (hb4.block D (Array.getElem?_eq_some_iff.1 hK3).1).trans hK3
    clear hN3 hU3 hE3 rJ3 hrU3 hB3 hK3 hb4 hN3c
    have hN4c := hN4.cell
    have hN4f := hN4.frozen
    have hU4c := hU4.cell
    have hU4f := hU4.frozen
    have hE4c := hE4.cell
    have hE4f := hE4.frozen
    rcases hasc : ascU ls.flatten with _ | _
    · have HNo := Lib.hid (show listV size s head = none by rw [HRe.out, hasc]; rfl)
      clear hasc
      gi_wp2
      obtain ⟨W5, hW5⟩ : ∃ W5, W5 = ((W4.setCell ⟨H, 0, none⟩ (.slice none 0 0)).setCell ⟨H + 1, 0, none⟩ (.slice none 0 0)).setCell ⟨H + 1 + 1, 0, none⟩ (.int .i64 4) := ⟨_, rfl⟩
      have hK2 : W5.heap[D]? = some (.deferred (some [])) := by
        rw [hW5]
        exact (((KeepsOthers.setCell W4 _ _).trans (KeepsOthers.setCell _ _ _)).trans (KeepsOthers.setCell _ _ _)).same D _ hK4 rfl
      obtain ⟨_, q2, q3, q4, q5, _⟩ := ls_stop (v1 := .slice none 0 0) (v2 := .slice none 0 0) (v3 := .int .i64 4) hN4 hU4 hE4 (KeepsFrom.refl 0 W4) hB4
      rw [← hW5] at q2 q3 q4 q5 ⊢
      clear hW5
      refine ⟨by simp, .inl ⟨_, _, rfl, run_takeDeferred hK2, ?_⟩⟩
      have p2 := q2.kept (grownBy_putObj' _ D (.deferred none)) (by intro h; injection h with h; omega)
      have p3 := q3.kept (grownBy_putObj' _ D (.deferred none)) (by intro h; injection h with h; omega)
      have p4 := q4.kept (grownBy_putObj' _ D (.deferred none)) (by intro h; injection h with h; omega)
      have p5 := q5.trans (belowK_b (w := w) hHle _ D _ (.deferred none) (by have := HH.out; omega) hK2 rfl rfl)
      refine ⟨_, results_cells3 rfl _ _ _ _ _ _ _ _ rfl rfl rfl (load_boxR (.inr (.inl rfl)) p2) (load_boxR (.inr (.inl rfl)) p3) (load_boxR (.inr (.inr rfl)) p4), ?_⟩
      rw [HNo.out]
      exact ListPost.no HG.out (below_to HH.out p5)
    · have HYes := Lib.hid (show listV size s head = some (ls.flatten, ys.map (·.1.p.pg)) by rw [HRe.out, hasc]; rfl)
      clear hasc
      have hmx : Try.prog.follows .mixedOrders = true := by kernel_rfl
      gi_upto_region 15 with fail
      have hN5 : Boxed W4.drew H 32 (.slice AJ nJ cJ) := hN4
      have hU5 : Boxed W4.drew (H + 1) 32 (.slice AU ys.length cU) := hU4
      have hE5 : Boxed W4.drew (H + 1 + 1) 25 (.int .i64 0) := hE4
      have hK5 : W4.drew.heap[D]? = some (.deferred (some [])) := hK4
      have rJ5 : W4.drew.ownsRow (H + 8) 29 1 (.slice AJ nJ cJ) nJ (ucells ls.flatten) := rJ4
      have hrU5 : W4.drew.ownsRow (H + 8) 29 1 (.slice AU ys.length cU) ys.length (ucells (ys.map (·.1.p.pg))) := hrU4
      have hB5 := hB4.drew
      have hN5c := hN5.cell
      have hN5f := hN5.frozen
      have hU5c := hU5.cell
      have hU5f := hU5.frozen
      have hE5c := hE5.cell
      have hE5f := hE5.frozen
      gi_region_with_o (fail)
      all_goals gi_wp2
      all_goals
        obtain ⟨_, q2, q3, q4, q5, _⟩ := ls_stop (v1 := .slice AJ nJ cJ) (v2 := .slice AU ys.length cU) (v3 := .int .i64 0) hN5 hU5 hE5 (KeepsFrom.refl 0 _) hB5
        have q6 := ls_row (v1 := .slice AJ nJ cJ) (v2 := .slice AU ys.length cU) (v3 := .int .i64 0) (by omega : H + 2 < H + 8) rJ5
        have q7 := ls_row (v1 := .slice AJ nJ cJ) (v2 := .slice AU ys.length cU) (v3 := .int .i64 0) (by omega : H + 2 < H + 8) hrU5
        have hK2 := (((KeepsOthers.setCell _ ⟨H, 0, none⟩ (.slice AJ nJ cJ)).trans (KeepsOthers.setCell _ ⟨H + 1, 0, none⟩ (.slice AU ys.length cU))).trans (KeepsOthers.setCell _ ⟨H + 1 + 1, 0, none⟩ (.int .i64 0))).same D _ hK5 rfl
        refine ⟨by simp, .inl ⟨_, _, rfl, run_takeDeferred hK2, ?_⟩⟩
        have p2 := q2.kept (grownBy_putObj' _ D (.deferred none)) (by intro h; injection h with h; omega)
        have p3 := q3.kept (grownBy_putObj' _ D (.deferred none)) (by intro h; injection h with h; omega)
        have p4 := q4.kept (grownBy_putObj' _ D (.deferred none)) (by intro h; injection h with h; omega)
        have p6 := ownsRow_putObj q6 (.deferred none) hK2 rfl
        have p7 := ownsRow_putObj q7 (.deferred none) hK2 rfl
        have p5 := q5.trans (belowK_b (w := w) hHle _ D _ (.deferred none) (by have := HH.out; omega) hK2 rfl rfl)
        refine ⟨_, results_cells3 rfl _ _ _ _ _ _ _ _ rfl rfl rfl (load_boxR (.inr (.inl rfl)) p2) (load_boxR (.inr (.inl rfl)) p3) (load_boxR (.inr (.inr rfl)) p4), ?_⟩
        unfold ListPost
        rw [if_pos HG.out, HYes.out]
        refine ⟨AJ, nJ, cJ, AU, ys.length, cU, ?_, Reads.of_own p6, Reads.of_own p7, below_to HH.out p5⟩
        have hg9 := HG.out
        unfold ldErr
        rw [hg9]
        rfl
  case stop =>
    rintro D c pre W hD hpre ⟨rfl, hbad, q2, q3, q4, q5⟩ hK2
    have HNo := Lib.hid (listV_bad_pre hpre hbad)
    clear hbad hpre
    gi_wp2
    refine ⟨by simp, .inl ⟨_, _, rfl, run_takeDeferred hK2, ?_⟩⟩
    have p2 := q2.kept (grownBy_putObj' _ D (.deferred none)) (by intro h; injection h with h; omega)
    have p3 := q3.kept (grownBy_putObj' _ D (.deferred none)) (by intro h; injection h with h; omega)
    have p4 := q4.kept (grownBy_putObj' _ D (.deferred none)) (by intro h; injection h with h; omega)
    have p5 := q5.trans (belowK_b (w := w) hHle _ D _ (.deferred none) (by have := HH.out; omega) hK2 rfl rfl)
    refine ⟨_, results_cells3 rfl _ _ _ _ _ _ _ _ rfl rfl rfl (load_boxR (.inr (.inl rfl)) p2) (load_boxR (.inr (.inl rfl)) p3) (load_boxR (.inr (.inr rfl)) p4), ?_⟩
    rw [HNo.out]
    exact ListPost.no HG.out (below_to HH.out p5)
end Go.Proofs.Ytabhhccdbfjigaa

