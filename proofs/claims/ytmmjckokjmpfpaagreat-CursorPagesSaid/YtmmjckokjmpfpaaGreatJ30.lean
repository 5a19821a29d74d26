/-
  Contract of chain.Read: the value that a chain of pages holds.
-/
import Derived.Test.YtmmjckokjmpfpaaGreatJ27
import Derived.Test.YtmmjckokjmpfpaaGreatJ29
import Derived.Sort.QuietIn
import Derived.Sort.BigQuietIn
import Derived.BigGuardIn
import Derived.BigGuardPartIn
set_option linter.unusedVariables false
set_option linter.unusedSimpArgs false
namespace Go.Proofs.YtmmjckokjmpfpaaGreat
open Go.RowKit Go.Shelf

attribute [local go_sem] Oper.semAt_some

theorem ucells_snoc (l : List Nat) (n : Nat) : ucells (l ++ [n]) = ucells l ++ [.int .u32 n] := by simp [ucells]
theorem row_kind {W : World} {base size k : Nat} {e : TypeId} {v : Value} {xs : List Value} (hrow : W.ownsRow base e size v k xs) (o : Obj) : ∀ r, v.ownBlock = some r → ∃ o' : Obj, (W.alloc o).heap[r]? = some o' ∧ (match o' with | .cells _ t _ => t == e | _ => false) = true := fun r er => by
 rcases (hrow.alloc o).2 with ⟨rfl, _⟩ | ⟨g, cap, cur, rfl, _, hgb, _⟩
 ·simp [Value.ownBlock] at er
 ·obtain rfl : g = r := by simpa [Value.ownBlock] using er
  exact ⟨_, hgb, by simp⟩
theorem zero_over : Pg.zero.over = none := by unfold Pg.over readO Pg.zero; simp
theorem rd_stop {w W W3 : World} {H B : Nat} {u1 u2 u3 v1 v2 v3 : Value} (h1 : Boxed W3 (H + 1) 9 u1) (h2 : Boxed W3 (H + 1 + 1) 31 u2) (h3 : Boxed W3 (H + 1 + 1 + 1) 28 u3) (hF : KeepsFrom B W W3) (hB : Below H w W3) :
  KeepsFrom B W (((W3.setCell ⟨H + 1, 0, none⟩ v1).setCell ⟨H + 1 + 1, 0, none⟩ v2).setCell ⟨H + 1 + 1 + 1, 0, none⟩ v3) ∧ Boxed (((W3.setCell ⟨H + 1, 0, none⟩ v1).setCell ⟨H + 1 + 1, 0, none⟩ v2).setCell ⟨H + 1 + 1 + 1, 0, none⟩ v3) (H + 1) 9 v1 ∧
  Boxed (((W3.setCell ⟨H + 1, 0, none⟩ v1).setCell ⟨H + 1 + 1, 0, none⟩ v2).setCell ⟨H + 1 + 1 + 1, 0, none⟩ v3) (H + 1 + 1) 31 v2 ∧ Boxed (((W3.setCell ⟨H + 1, 0, none⟩ v1).setCell ⟨H + 1 + 1, 0, none⟩ v2).setCell ⟨H + 1 + 1 + 1, 0, none⟩ v3) (H + 1 + 1 + 1) 28 v3 ∧
  Below H w (((W3.setCell ⟨H + 1, 0, none⟩ v1).setCell ⟨H + 1 + 1, 0, none⟩ v2).setCell ⟨H + 1 + 1 + 1, 0, none⟩ v3) := by
 refine ⟨hF.trans ((((KeepsOthers.setCell _ _ _).trans (KeepsOthers.setCell _ _ _)).trans (KeepsOthers.setCell _ _ _)).from _), ?_, ?_, ?_, ?_⟩
 ·exact ((h1.set v1).other (by omega) v2).other (by omega) v3
 ·exact ((h2.other (by omega) v1).set v2).other (by omega) v3
 ·exact ((h3.other (by omega) v1).other (by omega) v2).set v3
 ·exact ((hB.setCell (p := ⟨H + 1, 0, none⟩) (Nat.le_succ H) _).setCell (p := ⟨H + 1 + 1, 0, none⟩) (show H ≤ H + 1 + 1 by omega) _).setCell (p := ⟨H + 1 + 1 + 1, 0, none⟩) (show H ≤ H + 1 + 1 + 1 by omega) _
theorem below_to {H n : Nat} {w W : World} (h : H = n) (p : Below H w W) : Below n w W := h ▸ p
theorem rd_row {W3 : World} {H base n : Nat} {V u1 u2 u3 v1 v2 v3 : Value} {xs : List Value} (h1 : Boxed W3 (H + 1) 9 u1) (h2 : Boxed W3 (H + 1 + 1) 31 u2) (h3 : Boxed W3 (H + 1 + 1 + 1) 28 u3) (hr : W3.ownsRow base 23 1 V n xs) :
  (((W3.setCell ⟨H + 1, 0, none⟩ v1).setCell ⟨H + 1 + 1, 0, none⟩ v2).setCell ⟨H + 1 + 1 + 1, 0, none⟩ v3).ownsRow base 23 1 V n xs := by
 have r1 := hr.kept (grownBy_setCell' W3 (H + 1) v1) (.inr (fun e => h1.not_row (by decide) hr e.symm))
 have b2 := h2.other (B' := H + 1) (by omega) v1
 have r2 := r1.kept (grownBy_setCell' _ (H + 1 + 1) v2) (.inr (fun e => b2.not_row (by decide) r1 e.symm))
 have b3 := (h3.other (B' := H + 1) (by omega) v1).other (B' := H + 1 + 1) (by omega) v2
 exact r2.kept (grownBy_setCell' _ (H + 1 + 1 + 1) v3) (.inr (fun e => b3.not_row (by decide) r2 e.symm))
set_option maxRecDepth 100000 in
set_option maxHeartbeats 12800000 in
theorem hread_new (size : Int) (s : ByteArray) (head : Nat) (len : Int) (w : World) (hs : s.size ≤ 1000000) (hh : head < 4294967296) (hl9 : -9223372036854775808 ≤ len ∧ len ≤ 9223372036854775807) :
  Calls Tryz.prog 77 #[.int .i64 size, .string s, .int .u32 head, .int .i64 len] w fun e w' => ∃ A n c, e = .returned (.tuple #[.string (rdStr (readV size s head len)), .slice A n c, .int .i64 (rdErr size (readV size s head len))]) ∧ ReadsN w.heap.size w' 1 A n (ucells (rdPs (readV size s head len))) ∧ Below w.heap.size w w' := by
 obtain ⟨i0, hi, hz0, hz1, hz2⟩ := info_parts infoU32
 have HFl := Lib.hid (follow_le (size := size) (s := s) (kd := 5) (head := head))
 refine (callsIn_wide (n := 5)).1 ?_
 refine callsIn_of_wp_marks Tryz.func77 rfl trivial ?_ rfl
 simp only [Tryz.ntmps77, List.size_toArray, List.length_cons, List.length_nil, Nat.reduceAdd, Nat.reduceSub, Array.replicate_succ, Array.replicate_zero, List.push_toArray, List.append_toArray, List.nil_append, List.cons_append]
 rcases hg : goodSize size with _ | _
 ·have hE1 := readV_bad (s := s) (head := head) (len := len) hg
  have hE2 : rdErr size (readV size s head len) = 2 := by unfold rdErr; rw [hg]; rfl
  have HE1 := Lib.hid hE1
  have HE2 := Lib.hid hE2
  clear hE1 hE2
  gi_wp2_with (refine ⟨trivial, ?_⟩; gi_at_call 71; refine (callsIn_wide.2 (dgood_is size false _ hg)).mono ?_; rintro e w' ⟨rfl, rfl⟩)
  obtain ⟨W2, hW2⟩ : ∃ W2, W2 = ((((w.alloc (.cells #[.int .i64 len] 3)).alloc (.cells #[.string ⟨#[]⟩] 9)).alloc (.cells #[.slice none 0 0] 31)).alloc (.cells #[.int .i64 2] 28)) := ⟨_, rfl⟩
  have k1 : Boxed W2 (w.heap.size + 1) 9 (.string ⟨#[]⟩) := by
   rw [hW2]
   have := ((Boxed.new (w.alloc (.cells #[.int .i64 len] 3)) 9 (.string ⟨#[]⟩)).alloc (.cells #[.slice none 0 0] 31)).alloc (.cells #[.int .i64 2] 28)
   simpa [Nat.add_assoc] using this
  have k2 : Boxed W2 (w.heap.size + 1 + 1) 31 (.slice none 0 0) := by
   rw [hW2]
   have := (Boxed.new ((w.alloc (.cells #[.int .i64 len] 3)).alloc (.cells #[.string ⟨#[]⟩] 9)) 31 (.slice none 0 0)).alloc (.cells #[.int .i64 2] 28)
   simpa [Nat.add_assoc] using this
  have k3 : Boxed W2 (w.heap.size + 1 + 1 + 1) 28 (.int .i64 2) := by
   rw [hW2]
   have := Boxed.new (((w.alloc (.cells #[.int .i64 len] 3)).alloc (.cells #[.string ⟨#[]⟩] 9)).alloc (.cells #[.slice none 0 0] 31)) 28 (.int .i64 2)
   simpa [Nat.add_assoc] using this
  have kB : Below w.heap.size w W2 := by
   rw [hW2]
   exact ((((Below.refl _ w).alloc (by simp) _).alloc (by simp) _).alloc (by simp; omega) _).alloc (by simp; omega) _
  rw [← hW2]
  refine ⟨_, results_cells3 rfl _ _ _ _ _ _ _ _ rfl rfl rfl (load_boxR (.inl rfl) k1) (load_boxR (.inr (.inl rfl)) k2) (load_boxR (.inr (.inr rfl)) k3), none, 0, 0, ?_, ?_, kB⟩
  ·rw [HE2.out, HE1.out]; rfl
  ·rw [HE1.out]; exact ReadsN.none_
 gi_wp2_with (first
  | (refine ⟨trivial, ?_⟩; gi_at_call 71; refine (callsIn_wide.2 (dgood_is size true _ hg)).mono ?_; rintro e w' ⟨rfl, rfl⟩)
  | (refine ⟨trivial, ?_⟩; gi_at_call 101; refine (callsIn_wide.2 (fmake_any size s head 5 _)).mono ?_; rintro e w' ⟨rfl, rfl⟩))
 obtain ⟨H, hH⟩ : ∃ H, H = w.heap.size := ⟨_, rfl⟩
 obtain ⟨W0, hW0⟩ : ∃ W0, W0 = (((((((((w.alloc (.cells #[.int .i64 len] 3)).alloc (.cells #[.string ⟨#[]⟩] 9)).alloc (.cells #[.slice none 0 0] 31)).alloc (.cells #[.int .i64 0] 28)).alloc (.cells #[.pointer none, .slice none 0 0] 166)).alloc (.cells #[.int .i64 size] 3)).alloc (.cells #[.string s] 9)).alloc (.cells #[.int .u32 head] 23)).alloc (.cells #[.int .i64 5] 3)) := ⟨_, rfl⟩
 have hsz : W0.heap.size = H + 9 := by rw [hW0, hH]; simp
 have bL : Boxed W0 (H) 3 (.int .i64 len) := by
  rw [hW0, hH]
  have := ((((((((Boxed.new w 3 (.int .i64 len)).alloc (.cells #[.string ⟨#[]⟩] 9)).alloc (.cells #[.slice none 0 0] 31)).alloc (.cells #[.int .i64 0] 28)).alloc (.cells #[.pointer none, .slice none 0 0] 166)).alloc (.cells #[.int .i64 size] 3)).alloc (.cells #[.string s] 9)).alloc (.cells #[.int .u32 head] 23)).alloc (.cells #[.int .i64 5] 3)
  simpa [Nat.add_assoc] using this
 have bV : Boxed W0 (H + 1) 9 (.string ⟨#[]⟩) := by
  rw [hW0, hH]
  have := (((((((Boxed.new (w.alloc (.cells #[.int .i64 len] 3)) 9 (.string ⟨#[]⟩)).alloc (.cells #[.slice none 0 0] 31)).alloc (.cells #[.int .i64 0] 28)).alloc (.cells #[.pointer none, .slice none 0 0] 166)).alloc (.cells #[.int .i64 size] 3)).alloc (.cells #[.string s] 9)).alloc (.cells #[.int .u32 head] 23)).alloc (.cells #[.int .i64 5] 3)
  simpa [Nat.add_assoc] using this
 have bO : Boxed W0 (H + 1 + 1) 31 (.slice none 0 0) := by
  rw [hW0, hH]
  have := ((((((Boxed.new ((w.alloc (.cells #[.int .i64 len] 3)).alloc (.cells #[.string ⟨#[]⟩] 9)) 31 (.slice none 0 0)).alloc (.cells #[.int .i64 0] 28)).alloc (.cells #[.pointer none, .slice none 0 0] 166)).alloc (.cells #[.int .i64 size] 3)).alloc (.cells #[.string s] 9)).alloc (.cells #[.int .u32 head] 23)).alloc (.cells #[.int .i64 5] 3)
  simpa [Nat.add_assoc] using this
 have bE : Boxed W0 (H + 1 + 1 + 1) 28 (.int .i64 0) := by
  rw [hW0, hH]
  have := (((((Boxed.new (((w.alloc (.cells #[.int .i64 len] 3)).alloc (.cells #[.string ⟨#[]⟩] 9)).alloc (.cells #[.slice none 0 0] 31)) 28 (.int .i64 0)).alloc (.cells #[.pointer none, .slice none 0 0] 166)).alloc (.cells #[.int .i64 size] 3)).alloc (.cells #[.string s] 9)).alloc (.cells #[.int .u32 head] 23)).alloc (.cells #[.int .i64 5] 3)
  simpa [Nat.add_assoc] using this
 have bB : IsBd (H + 1 + 1 + 1 + 1) [] W0 := by
  rw [hW0, hH]
  have := ((((IsBd.new ((((w.alloc (.cells #[.int .i64 len] 3)).alloc (.cells #[.string ⟨#[]⟩] 9)).alloc (.cells #[.slice none 0 0] 31)).alloc (.cells #[.int .i64 0] 28))).alloc (.cells #[.int .i64 size] 3)).alloc (.cells #[.string s] 9)).alloc (.cells #[.int .u32 head] 23)).alloc (.cells #[.int .i64 5] 3)
  simpa [Nat.add_assoc] using this
 have b2 : Boxed W0 (H + 1 + 1 + 1 + 1 + 1) 3 (.int .i64 size) := by
  rw [hW0, hH]
  have := (((Boxed.new (((((w.alloc (.cells #[.int .i64 len] 3)).alloc (.cells #[.string ⟨#[]⟩] 9)).alloc (.cells #[.slice none 0 0] 31)).alloc (.cells #[.int .i64 0] 28)).alloc (.cells #[.pointer none, .slice none 0 0] 166)) 3 (.int .i64 size)).alloc (.cells #[.string s] 9)).alloc (.cells #[.int .u32 head] 23)).alloc (.cells #[.int .i64 5] 3)
  simpa [Nat.add_assoc] using this
 have b3 : Boxed W0 (H + 1 + 1 + 1 + 1 + 1 + 1) 9 (.string s) := by
  rw [hW0, hH]
  have := ((Boxed.new ((((((w.alloc (.cells #[.int .i64 len] 3)).alloc (.cells #[.string ⟨#[]⟩] 9)).alloc (.cells #[.slice none 0 0] 31)).alloc (.cells #[.int .i64 0] 28)).alloc (.cells #[.pointer none, .slice none 0 0] 166)).alloc (.cells #[.int .i64 size] 3)) 9 (.string s)).alloc (.cells #[.int .u32 head] 23)).alloc (.cells #[.int .i64 5] 3)
  simpa [Nat.add_assoc] using this
 have b1 : Boxed W0 (H + 1 + 1 + 1 + 1 + 1 + 1 + 1) 23 (.int .u32 head) := by
  rw [hW0, hH]
  have := (Boxed.new (((((((w.alloc (.cells #[.int .i64 len] 3)).alloc (.cells #[.string ⟨#[]⟩] 9)).alloc (.cells #[.slice none 0 0] 31)).alloc (.cells #[.int .i64 0] 28)).alloc (.cells #[.pointer none, .slice none 0 0] 166)).alloc (.cells #[.int .i64 size] 3)).alloc (.cells #[.string s] 9)) 23 (.int .u32 head)).alloc (.cells #[.int .i64 5] 3)
  simpa [Nat.add_assoc] using this
 have b4 : Boxed W0 (H + 1 + 1 + 1 + 1 + 1 + 1 + 1 + 1) 3 (.int .i64 5) := by
  rw [hW0, hH]
  have := Boxed.new ((((((((w.alloc (.cells #[.int .i64 len] 3)).alloc (.cells #[.string ⟨#[]⟩] 9)).alloc (.cells #[.slice none 0 0] 31)).alloc (.cells #[.int .i64 0] 28)).alloc (.cells #[.pointer none, .slice none 0 0] 166)).alloc (.cells #[.int .i64 size] 3)).alloc (.cells #[.string s] 9)).alloc (.cells #[.int .u32 head] 23)) 3 (.int .i64 5)
  simpa [Nat.add_assoc] using this
 have hB0 : Below H w W0 := by
  rw [hW0, hH]
  exact (((((((((Below.refl _ w).alloc (by simp) _).alloc (by simp) _).alloc (by simp; omega) _).alloc (by simp; omega) _).alloc (by simp; omega) _).alloc (by simp; omega) _).alloc (by simp; omega) _).alloc (by simp; omega) _).alloc (by simp; omega) _
 rw [← hW0]
 rw [← hH]
 have hHle : H ≤ w.heap.size := by omega
 have HH := Lib.hid hH
 have h9 : H + 9 ≤ W0.heap.size := by omega
 have HHs := Lib.hid hs
 have HL9 := Lib.hid hl9
 have HG := Lib.hid hg
 clear hW0 hH hsz hl9 hg
 refine wpIn_rangeFunc_ownH (F := Fence.wide) rfl (by decide) (gf := 126) (lb := #[.pointer (some ⟨H + 1 + 1 + 1 + 1 + 1 + 1 + 1, 0, none⟩), .pointer (some ⟨H + 1 + 1 + 1 + 1 + 1, 0, none⟩), .pointer (some ⟨H + 1 + 1 + 1 + 1 + 1 + 1, 0, none⟩), .pointer (some ⟨H + 1 + 1 + 1 + 1 + 1 + 1 + 1 + 1, 0, none⟩)]) rfl trivial (enters_of Tryz.func126 (by kernel_rfl) rfl)
  (ffollow_stops (5 - 1) (by decide) (H + 1 + 1 + 1 + 1 + 1 + 1 + 1) (H + 1 + 1 + 1 + 1 + 1) (H + 1 + 1 + 1 + 1 + 1 + 1) (H + 1 + 1 + 1 + 1 + 1 + 1 + 1 + 1) size s head 5 hs hh W0 b1 b2 b3 b4) (fun h k => kpF_t h k) (fun W l o o' hl h hc hw => kpF_b W l o o' hl h hc hw) (Below.refl _ _) (fun _ => rfl)
  (fun pre W => (∃ v : ByteArray, accA (pre.map (·.1)) = some v ∧ ((pre ≠ [] → (v.size : Int) ≤ len) ∧ v.size ≤ 4096 * pre.length) ∧ IsBd (H + 1 + 1 + 1 + 1) v.data.toList W) ∧ (∃ V, Boxed W (H + 1 + 1) 31 V ∧ W.ownsRow H 23 1 V pre.length (ucells (pre.map (·.1.p.pg)))) ∧ Boxed W H 3 (.int .i64 len) ∧ Boxed W (H + 1) 9 (.string ⟨#[]⟩) ∧ Boxed W (H + 1 + 1 + 1) 28 (.int .i64 0) ∧ Below H w W)
  (fun c pre W => c = .ret ∧ (accA (pre.map (·.1)) = none ∨ ∃ v, accA (pre.map (·.1)) = some v ∧ len < (v.size : Int)) ∧ Boxed W (H + 1) 9 (.string ⟨#[]⟩) ∧ Boxed W (H + 1 + 1) 31 (.slice none 0 0) ∧ Boxed W (H + 1 + 1 + 1) 28 (.int .i64 4) ∧ Below H w W)
  (by
   rintro pre W W' row ⟨⟨v, h1, h2, h3⟩, ⟨V, h4, h5⟩, h6, h7, h8, h9⟩ hg hr
   have hr' := fun r e => (hr r e).2
   exact ⟨⟨v, h1, h2, h3.own hg hr'⟩, ⟨V, cells_own h4 hg hr', row_own h5 hg hr'⟩, cells_own h6 hg hr', cells_own h7 hg hr', cells_own h8 hg hr', ownFrom_below (β := Unit) hHle (by omega) () W W' row h9 hg hr⟩)
  (by
   rintro c pre W W' row ⟨h1, h2, h3, h4, h5, h6⟩ hg hr
   have hr' := fun r e => (hr r e).2
   exact ⟨h1, h2, cells_own h3 hg hr', cells_own h4 hg hr', cells_own h5 hg hr', ownFrom_below (β := Unit) hHle (by omega) () W W' row h6 hg hr⟩)
  ⟨⟨⟨#[]⟩, rfl, ⟨(fun h => absurd rfl h), Nat.zero_le _⟩, bB⟩, ⟨_, bO, World.ownsRow_nil _ _ _ _⟩, bL, bV, bE, hB0⟩
  (fun x a' W => ∃ Bx, Boxed' W Bx x.1.p ∧ a' = { tmps := #[.int .i64 size, .string s, .int .u32 head, .int .i64 len, undef, undef, undef, .pointer (some ⟨H, 0, none⟩), .pointer (some ⟨H + 1, 0, none⟩), .pointer (some ⟨H + 1 + 1, 0, none⟩), .pointer (some ⟨H + 1 + 1 + 1, 0, none⟩), .pointer (some ⟨H + 1 + 1 + 1 + 1, 0, none⟩), .pointer (some ⟨Bx, 0, none⟩), .int .i64 x.1.e, undef, undef, undef, .int .i64 size, .bool true, .bool false, .int .i64 size, .string s, .int .u32 head, .func (.func 126) #[] #[.pointer (some ⟨H + 1 + 1 + 1 + 1 + 1 + 1 + 1, 0, none⟩), .pointer (some ⟨H + 1 + 1 + 1 + 1 + 1, 0, none⟩), .pointer (some ⟨H + 1 + 1 + 1 + 1 + 1 + 1, 0, none⟩), .pointer (some ⟨H + 1 + 1 + 1 + 1 + 1 + 1 + 1 + 1, 0, none⟩)], .agg #[.int .i64 x.1.p.kd, .int .i64 x.1.p.ct, .int .u32 x.1.p.pg, .int .u32 x.1.p.lk, .int .u64 x.1.p.tx, .string x.1.p.bd], .int .i64 x.1.e, undef, undef, undef, undef, undef, undef, undef, undef, undef, undef, undef, undef, undef, undef, undef, undef, undef, undef, undef, undef, undef, undef, undef, undef, undef, undef, undef, undef, undef, undef, undef, undef, undef, undef, undef, undef], defers := [] })
  (fun x a' _ X Y row hs hg hr => by obtain ⟨Bx, e2, e3⟩ := hs; exact ⟨Bx, boxed'_kept e2 hg (fun r e => (hr r e).2), e3⟩)
  ?assign ?body ?done ?stop
 case assign =>
  rintro l pre x W K ⟨⟨v, h1, h2, h3⟩, ⟨V, h4, h5⟩, h6, h7, h8, h9⟩ hK
  gi_wp2
  exact hK _ _ ((KeepsOthers.alloc _ _).from _) (kpF_alloc _ _) ⟨⟨v, h1, h2, h3.alloc _⟩, ⟨V, h4.alloc _, h5.alloc _⟩, h6.alloc _, h7.alloc _, h8.alloc _, h9.alloc (Nat.le_trans hHle h9.size) _⟩ ⟨W.heap.size, Blk.new _ _ _, rfl⟩
 case body =>
  have hmx : Tryz.prog.follows .mixedOrders = true := by kernel_rfl
  rintro l pre x a' W hl _ ⟨⟨v, hv, ⟨hvl, hv4⟩, hI⟩, ⟨V, hO, hrow⟩, hL, hS, hE, hB⟩ ⟨Bx, bX, rfl⟩ hlt
  have hll := HFl.out
  have hs9 := HHs.out
  have c0 := bX.cell 0
  have c1 := bX.cell 1
  have c2 := bX.cell 2
  have c3 := bX.cell 3
  have c4 := bX.cell 4
  have c5 := bX.cell 5
  simp at c0 c1 c2 c3 c4 c5
  obtain ⟨hbd, hpg⟩ := follow_small x.2
  have HOf := fun w => oof9_any x.1.p.kd x.1.p.ct x.1.p.pg x.1.p.lk x.1.p.tx x.1.p.bd w (by omega)
  obtain ⟨AV, cV, rfl, _, _, _⟩ := own_form hrow
  rcases hov : x.1.p.over with _ | t
  ·have hbad : accA ((pre ++ [x]).map (·.1)) = none := by
    rw [List.map_append, List.map_cons, List.map_nil, accA_snoc, hv]
    unfold stepA
    rw [hov]
    simp
   have HBad := Lib.hid (show accA ((pre ++ [x]).map (·.1)) = none ∨ ∃ v, accA ((pre ++ [x]).map (·.1)) = some v ∧ len < (v.size : Int) from .inl hbad)
   rw [show readO x.1.p.kd x.1.p.ct x.1.p.pg x.1.p.lk x.1.p.tx x.1.p.bd = none from hov] at HOf
   clear hbad hov
   have hwf : Fence.wide.fn 103 = True := eq_true trivial
   gi_upto_region 8 with (refine ⟨trivial, ?_⟩; gi_at_call 102; refine (CallsIn.inRound l (callsIn_wide.2 (HOf _))).mono ?_; rintro e W2 ⟨rfl, hb2⟩)
   have hI2 := hI.below hb2
   have hO2 := hO.kept (grown_of_below hb2) (by simp)
   have hrow2 := own_below hrow hb2
   have hL2 := hL.kept (grown_of_below hb2) (by simp)
   have hS2 := hS.kept (grown_of_below hb2) (by simp)
   have hE2 := hE.kept (grown_of_below hb2) (by simp)
   have bX2 : Boxed' W2 Bx x.1.p := Blk.grown bX (grown_of_below hb2) (by simp)
   have hB2 := hB.trans (hb2.mono (Nat.le_trans hHle hB.size))
   have hF2 : KeepsFrom W0.heap.size W W2 := KeepsFrom.of_grownBy (grown_of_below hb2) (by simp)
   have hk2 := kpF_below hb2
   clear hb2 hI hO hrow hL hS hE bX hB c0 c1 c2 c3 c4 c5
   by_cases he : x.1.e = 0
   ·have hez : (x.1.e != 0) = false := by simp [he]
    refine region_quiet_round l rfl (by kernel_rfl) (by kernel_rfl) (by kernel_rfl) ?_
    repeat (gi_big_quiet_step (fail))
    refine wpQuietIn_nil ?_
    intro _ hw'
    obtain ⟨nq, hw''⟩ := hw'
    subst hw''
    obtain ⟨W3, hW3⟩ : ∃ W3, W3 = W2.drewN nq := ⟨_, rfl⟩
    have hI3 : IsBd (H + 1 + 1 + 1 + 1) v.data.toList W3 := by rw [hW3]; exact hI2
    have hO3 : Boxed W3 (H + 1 + 1) 31 (.slice AV pre.length cV) := by rw [hW3]; exact hO2
    have hrow3 : W3.ownsRow H 23 1 (.slice AV pre.length cV) pre.length (ucells (pre.map (·.1.p.pg))) := by rw [hW3]; exact hrow2
    have hL3 : Boxed W3 H 3 (.int .i64 len) := by rw [hW3]; exact hL2
    have hS3 : Boxed W3 (H + 1) 9 (.string ⟨#[]⟩) := by rw [hW3]; exact hS2
    have hE3 : Boxed W3 (H + 1 + 1 + 1) 28 (.int .i64 0) := by rw [hW3]; exact hE2
    have bX3 : Boxed' W3 Bx x.1.p := by rw [hW3]; exact bX2
    have hB3 : Below H w W3 := by rw [hW3]; exact below_drewN hB2 nq
    have hF3 : KeepsFrom W0.heap.size W W3 := by rw [hW3]; exact ⟨hF2.size, hF2.same⟩
    have hk3 : KpF W W3 := by rw [hW3]; exact hk2
    rw [← hW3]
    clear hW3 hI2 hO2 hrow2 hL2 hS2 hE2 bX2 hB2 hF2 hk2
    have hO3c := hO3.cell
    have hO3f := hO3.frozen
    have hS3c := hS3.cell
    have hS3f := hS3.frozen
    have hE3c := hE3.cell
    have hE3f := hE3.frozen
    gi_wp2
    obtain ⟨q1, q2, q3, q4, q5⟩ := rd_stop (v1 := .string ⟨#[]⟩) (v2 := .slice none 0 0) (v3 := .int .i64 4) hS3 hO3 hE3 hF3 hB3
    exact ⟨q1, ⟨rfl, HBad.out, q2, q3, q4, q5⟩⟩
   ·have hez : (x.1.e != 0) = true := by simp [he]
    refine region_quiet_round l rfl (by kernel_rfl) (by kernel_rfl) (by kernel_rfl) ?_
    repeat (gi_big_quiet_step (fail))
    refine wpQuietIn_nil ?_
    intro _ hw'
    obtain ⟨nq, hw''⟩ := hw'
    subst hw''
    obtain ⟨W3, hW3⟩ : ∃ W3, W3 = W2.drewN nq := ⟨_, rfl⟩
    have hI3 : IsBd (H + 1 + 1 + 1 + 1) v.data.toList W3 := by rw [hW3]; exact hI2
    have hO3 : Boxed W3 (H + 1 + 1) 31 (.slice AV pre.length cV) := by rw [hW3]; exact hO2
    have hrow3 : W3.ownsRow H 23 1 (.slice AV pre.length cV) pre.length (ucells (pre.map (·.1.p.pg))) := by rw [hW3]; exact hrow2
    have hL3 : Boxed W3 H 3 (.int .i64 len) := by rw [hW3]; exact hL2
    have hS3 : Boxed W3 (H + 1) 9 (.string ⟨#[]⟩) := by rw [hW3]; exact hS2
    have hE3 : Boxed W3 (H + 1 + 1 + 1) 28 (.int .i64 0) := by rw [hW3]; exact hE2
    have bX3 : Boxed' W3 Bx x.1.p := by rw [hW3]; exact bX2
    have hB3 : Below H w W3 := by rw [hW3]; exact below_drewN hB2 nq
    have hF3 : KeepsFrom W0.heap.size W W3 := by rw [hW3]; exact ⟨hF2.size, hF2.same⟩
    have hk3 : KpF W W3 := by rw [hW3]; exact hk2
    rw [← hW3]
    clear hW3 hI2 hO2 hrow2 hL2 hS2 hE2 bX2 hB2 hF2 hk2
    have hO3c := hO3.cell
    have hO3f := hO3.frozen
    have hS3c := hS3.cell
    have hS3f := hS3.frozen
    have hE3c := hE3.cell
    have hE3f := hE3.frozen
    gi_wp2
    obtain ⟨q1, q2, q3, q4, q5⟩ := rd_stop (v1 := .string ⟨#[]⟩) (v2 := .slice none 0 0) (v3 := .int .i64 4) hS3 hO3 hE3 hF3 hB3
    exact ⟨q1, ⟨rfl, HBad.out, q2, q3, q4, q5⟩⟩
  ·have he : x.1.e = 0 := by
    rcases follow_ok x.2 with h | h
    ·rw [h, zero_over] at hov; cases hov
    ·exact h.1
   have hacc : accA ((pre ++ [x]).map (·.1)) = some (v ++ t) := by
    rw [List.map_append, List.map_cons, List.map_nil, accA_snoc, hv]
    unfold stepA
    rw [if_pos he, hov]
   have hts : t.size ≤ 4096 := by
    have h : readO x.1.p.kd x.1.p.ct x.1.p.pg x.1.p.lk x.1.p.tx x.1.p.bd = some t := hov
    unfold readO at h
    split at h
    ·injection h with h
     rw [← h, ByteArray.size_extract]
     omega
    ·cases h
   have HAc := Lib.hid hacc
   rw [show readO x.1.p.kd x.1.p.ct x.1.p.pg x.1.p.lk x.1.p.tx x.1.p.bd = some t from hov] at HOf
   have hez : (x.1.e != 0) = false := by simp [he]
   have HPre := Lib.hid hvl
   have hwr : wrap64 (len - (v.size : Int)) = len - (v.size : Int) := by
    by_cases hp : pre = []
    ·subst hp
     have : v = ⟨#[]⟩ := by
      have h9 : accA [] = some v := hv
      injection h9 with h9
      exact h9.symm
     subst this
     have := HL9.out
     show wrap64 (len - (0 : Nat)) = len - (0 : Nat)
     unfold wrap64
     omega
    ·have := hvl hp
     have := HL9.out
     unfold wrap64
     omega
   clear hov hacc
   gi_upto_region 8 with (refine ⟨trivial, ?_⟩; gi_at_call 102; refine (CallsIn.inRound l (callsIn_wide.2 (HOf _))).mono ?_; rintro e W2 ⟨rfl, hb2⟩)
   have hI2 := hI.below hb2
   have hO2 := hO.kept (grown_of_below hb2) (by simp)
   have hrow2 := own_below hrow hb2
   have hL2 := hL.kept (grown_of_below hb2) (by simp)
   have hS2 := hS.kept (grown_of_below hb2) (by simp)
   have hE2 := hE.kept (grown_of_below hb2) (by simp)
   have bX2 : Boxed' W2 Bx x.1.p := Blk.grown bX (grown_of_below hb2) (by simp)
   have hB2 := hB.trans (hb2.mono (Nat.le_trans hHle hB.size))
   have hF2 : KeepsFrom W0.heap.size W W2 := KeepsFrom.of_grownBy (grown_of_below hb2) (by simp)
   have hk2 := kpF_below hb2
   clear hb2 hI hO hrow hL hS hE bX hB c0 c1 c2 c3 c4 c5
   have hvs : v.data.toList.length = v.size := size_list v
   have HLn := fun (w : World) (h : IsBd (H + 1 + 1 + 1 + 1) v.data.toList w) => (blen_any _ _ w h).mono (R' := fun e w' => e = .returned (.int .i64 (v.size : Int)) ∧ w' = w) (fun e w' ⟨h1, h2⟩ => ⟨by rw [h1, hvs], h2⟩)
   have hL2c := hL2.cell
   have hwf : Fence.wide.fn 103 = True := eq_true trivial
   by_cases hc : len - (v.size : Int) < (t.size : Int)
   ·have hcz : decide (len - (v.size : Int) < (t.size : Int)) = true := decide_eq_true hc
    refine region_quiet_round l rfl (by kernel_rfl) (by kernel_rfl) (by kernel_rfl) ?_
    repeat (gi_big_quiet_step ((gi_at_call 103; exact CallsIn.quiet_of_same (callsIn_wide.2 (HLn _ (hI2.drewN _))))))
    refine wpQuietIn_nil ?_
    intro _ hw'
    obtain ⟨nq, hw''⟩ := hw'
    subst hw''
    have HBad := Lib.hid (show accA ((pre ++ [x]).map (·.1)) = none ∨ ∃ v, accA ((pre ++ [x]).map (·.1)) = some v ∧ len < (v.size : Int) from .inr ⟨_, HAc.out, by rw [ByteArray.size_append]; omega⟩)
    obtain ⟨W3, hW3⟩ : ∃ W3, W3 = W2.drewN nq := ⟨_, rfl⟩
    have hI3 : IsBd (H + 1 + 1 + 1 + 1) v.data.toList W3 := by rw [hW3]; exact hI2
    have hO3 : Boxed W3 (H + 1 + 1) 31 (.slice AV pre.length cV) := by rw [hW3]; exact hO2
    have hrow3 : W3.ownsRow H 23 1 (.slice AV pre.length cV) pre.length (ucells (pre.map (·.1.p.pg))) := by rw [hW3]; exact hrow2
    have hL3 : Boxed W3 H 3 (.int .i64 len) := by rw [hW3]; exact hL2
    have hS3 : Boxed W3 (H + 1) 9 (.string ⟨#[]⟩) := by rw [hW3]; exact hS2
    have hE3 : Boxed W3 (H + 1 + 1 + 1) 28 (.int .i64 0) := by rw [hW3]; exact hE2
    have bX3 : Boxed' W3 Bx x.1.p := by rw [hW3]; exact bX2
    have hB3 : Below H w W3 := by rw [hW3]; exact below_drewN hB2 nq
    have hF3 : KeepsFrom W0.heap.size W W3 := by rw [hW3]; exact ⟨hF2.size, hF2.same⟩
    have hk3 : KpF W W3 := by rw [hW3]; exact hk2
    rw [← hW3]
    clear hW3 hI2 hO2 hrow2 hL2 hS2 hE2 bX2 hB2 hF2 hk2
    have hO3c := hO3.cell
    have hO3f := hO3.frozen
    have hS3c := hS3.cell
    have hS3f := hS3.frozen
    have hE3c := hE3.cell
    have hE3f := hE3.frozen
    gi_wp2
    obtain ⟨q1, q2, q3, q4, q5⟩ := rd_stop (v1 := .string ⟨#[]⟩) (v2 := .slice none 0 0) (v3 := .int .i64 4) hS3 hO3 hE3 hF3 hB3
    exact ⟨q1, ⟨rfl, HBad.out, q2, q3, q4, q5⟩⟩
   ·have hcz : decide (len - (v.size : Int) < (t.size : Int)) = false := decide_eq_false hc
    refine region_quiet_round l rfl (by kernel_rfl) (by kernel_rfl) (by kernel_rfl) ?_
    repeat (gi_big_quiet_step ((gi_at_call 103; exact CallsIn.quiet_of_same (callsIn_wide.2 (HLn _ (hI2.drewN _))))))
    refine wpQuietIn_nil ?_
    intro _ hw'
    obtain ⟨nq, hw''⟩ := hw'
    subst hw''
    obtain ⟨W3, hW3⟩ : ∃ W3, W3 = W2.drewN nq := ⟨_, rfl⟩
    have hI3 : IsBd (H + 1 + 1 + 1 + 1) v.data.toList W3 := by rw [hW3]; exact hI2
    have hO3 : Boxed W3 (H + 1 + 1) 31 (.slice AV pre.length cV) := by rw [hW3]; exact hO2
    have hrow3 : W3.ownsRow H 23 1 (.slice AV pre.length cV) pre.length (ucells (pre.map (·.1.p.pg))) := by rw [hW3]; exact hrow2
    have hL3 : Boxed W3 H 3 (.int .i64 len) := by rw [hW3]; exact hL2
    have hS3 : Boxed W3 (H + 1) 9 (.string ⟨#[]⟩) := by rw [hW3]; exact hS2
    have hE3 : Boxed W3 (H + 1 + 1 + 1) 28 (.int .i64 0) := by rw [hW3]; exact hE2
    have bX3 : Boxed' W3 Bx x.1.p := by rw [hW3]; exact bX2
    have hB3 : Below H w W3 := by rw [hW3]; exact below_drewN hB2 nq
    have hF3 : KeepsFrom W0.heap.size W W3 := by rw [hW3]; exact ⟨hF2.size, hF2.same⟩
    have hk3 : KpF W W3 := by rw [hW3]; exact hk2
    rw [← hW3]
    clear hW3 hI2 hO2 hrow2 hL2 hS2 hE2 bX2 hB2 hF2 hk2
    have hvt : (v ++ t).data.toList = v.data.toList ++ t.data.toList := by rw [ByteArray.data_append, Array.toList_append]
    gi_upto_region 11 with (refine ⟨trivial, ?_⟩; gi_at_call 104; refine (CallsIn.inRound l (callsIn_wide.2 (bwrite_any _ _ t W3 hI3 (by rw [hvs]; omega)))).mono ?_; rintro e W4 ⟨rfl, hI4, hb4, hk4⟩)
    have hO4 := others_box hI3 hk4 hO3 (by decide)
    have hrow4 := others_row hI3 hk4 hrow3 (by decide)
    have hL4 := others_box hI3 hk4 hL3 (by decide)
    have hS4 := others_box hI3 hk4 hS3 (by decide)
    have hE4 := others_box hI3 hk4 hE3 (by decide)
    have bX4 : Boxed' W4 Bx x.1.p := others_block hI3 hk4 bX3 (fun cs t fz e => by cases e; decide)
    have hB4 := hB3.trans (hb4.mono (by omega))
    have hF4 := hF3.trans (others_from hI3 hk4 hb4.size W0.heap.size)
    have hkp4 := kpF_t hk3 (others_kpF hI3 hk4)
    clear hI3 hO3 hrow3 hL3 hS3 hE3 bX3 hB3 hF3 hk3 hk4 hb4
    have hO4c := hO4.cell
    have hX4c := Blk.cell bX4 2
    simp at hX4c
    gi_wp2_with (gi_at_builtin; refine wpListIn_append_own _ rfl _ _ 31 rfl H 23 i0 _ 1 4 Tryz.underlying31 hi hz0 hz1 hz2 rfl (by decide) _ _ _ rfl (hrow4.alloc _) ⟨W4.heap.size, 0, none⟩ 1 1 [.int .u32 x.1.p.pg] rfl rfl (cell_one_new _ _ _) (by simp [Value.oneCell']) (by unfold maxLen; omega) (by omega) (by have := hB4.size; have := hO4.lt; simp; omega) ?_; intro v' w1 hown' hgrow _; obtain ⟨g', cap', rfl⟩ := ownsRow_succ hown'; obtain ⟨hv1, hv2, hr2, hk2, hb2⟩ := hO4.appended (by decide) hrow4 (Nat.le_trans hHle hB4.size) (by omega) hown' hgrow; have hc1 := hv1.cell; have hf1 := hv1.frozen)
    have hgr : (W4.alloc (.cells #[.int .u32 x.1.p.pg] 23)).grownBy w1 (Value.slice AV pre.length cV).ownBlock := hgrow
    have kL := ((hL4.alloc _).kept hgr (hL4.not_row (by decide) hrow4)).other (B' := H + 1 + 1) (by omega) (.slice (some ⟨g', 0, none⟩) (pre.length + 1) cap')
    have kS := ((hS4.alloc _).kept hgr (hS4.not_row (by decide) hrow4)).other (B' := H + 1 + 1) (by omega) (.slice (some ⟨g', 0, none⟩) (pre.length + 1) cap')
    have kE := ((hE4.alloc _).kept hgr (hE4.not_row (by decide) hrow4)).other (B' := H + 1 + 1) (by omega) (.slice (some ⟨g', 0, none⟩) (pre.length + 1) cap')
    have kI : IsBd (H + 1 + 1 + 1 + 1) (v ++ t).data.toList (w1.setCell ⟨H + 1 + 1, 0, none⟩ (.slice (some ⟨g', 0, none⟩) (pre.length + 1) cap')) := by
     rw [hvt]
     refine ((hI4.alloc (.cells #[.int .u32 x.1.p.pg] 23)).grown hgr fun r e cs fz => ?_).grown (grownBy_setCell' w1 _ _) fun r e cs fz => ?_
     ·obtain ⟨o, h1, h2⟩ := row_kind hrow4 (.cells #[.int .u32 x.1.p.pg] 23) r e
      rw [h1]
      exact ⟨(by intro e'; cases e'; cases h2), (by intro e'; cases e'; cases h2)⟩
     ·cases e
      rw [show w1.heap[H + 1 + 1]? = _ from hv1]
      exact ⟨(by intro e'; cases e'), (by intro e'; cases e')⟩
    have kKp : KpF W4 (w1.setCell ⟨H + 1 + 1, 0, none⟩ (.slice (some ⟨g', 0, none⟩) (pre.length + 1) cap')) :=
     kpF_t (kpF_alloc W4 _) (kpF_t (kpF_grown hgr (row_keep hrow4 (by decide) _)) (kpF_grown (grownBy_setCell' w1 _ _) (fun r e => by cases e; exact ⟨_, hv1, rfl⟩)))
    have hr3 : (w1.setCell ⟨H + 1 + 1, 0, none⟩ (.slice (some ⟨g', 0, none⟩) (pre.length + 1) cap')).ownsRow H 23 1 (.slice (some ⟨g', 0, none⟩) (pre.length + 1) cap') (pre ++ [x]).length (ucells ((pre ++ [x]).map (·.1.p.pg))) := by
     rw [List.map_append, List.map_cons, List.map_nil, List.length_append, List.length_singleton, ucells_snoc]
     exact hr2
    exact ⟨hF4.trans (hk2.from _), kpF_t hkp4 kKp, ⟨⟨v ++ t, HAc.out, ⟨fun _ => by rw [ByteArray.size_append]; omega, by rw [ByteArray.size_append, List.length_append, List.length_singleton]; omega⟩, kI⟩, ⟨_, hv2, hr3⟩, kL, kS, kE, hB4.trans hb2⟩⟩
 case done =>
  rintro D ys W hD hys ⟨⟨v, hv, ⟨hvl, hv4⟩, hI⟩, ⟨V, hO, hrow⟩, hL, hS, hE, hB⟩ hK
  have hv' : accA (followL size s 5 head) = some v := by rw [← hys]; exact hv
  have hre := readV_end (len := len) hv'
  have hps : (followL size s 5 head).map (·.p.pg) = ys.map (·.1.p.pg) := by have h := congrArg (List.map (fun y : Lk => y.p.pg)) hys; rw [List.map_map] at h; exact h.symm
  rw [hps] at hre
  have HRe := Lib.hid hre
  have hvs : v.data.toList.length = v.size := size_list v
  obtain ⟨AV, cV, rfl, _, _, _⟩ := own_form hrow
  have HLn := fun (w : World) (h : IsBd (H + 1 + 1 + 1 + 1) v.data.toList w) => (blen_any _ _ w h).mono (R' := fun e w' => e = .returned (.int .i64 (v.size : Int)) ∧ w' = w) (fun e w' ⟨h1, h2⟩ => ⟨by rw [h1, hvs], h2⟩)
  have hLc := hL.cell
  have hwf : Fence.wide.fn 103 = True := eq_true trivial
  clear hre hps hv' hv hys hvl
  gi_upto_region 12 with fail
  by_cases h0 : v.size = 0
  ·have h0z : ((v.size : Int) == 0) = true := by simp [h0]
   have h0y : (v.size == 0) = true := by simp [h0]
   have HNo := Lib.hid (show readV size s head len = none by rw [HRe.out, if_neg (by omega)])
   gi_quiet ((gi_at_call 103; exact CallsIn.quiet_of_same (callsIn_wide.2 (HLn _ (hI.drewN _)))))
   obtain ⟨W3, hW3⟩ : ∃ W3, W3 = W.drewN nq := ⟨_, rfl⟩
   have hI3 : IsBd (H + 1 + 1 + 1 + 1) v.data.toList W3 := by rw [hW3]; exact hI.drewN nq
   have hO3 : Boxed W3 (H + 1 + 1) 31 (.slice AV ys.length cV) := by rw [hW3]; exact hO
   have hrow3 : W3.ownsRow H 23 1 (.slice AV ys.length cV) ys.length (ucells (ys.map (·.1.p.pg))) := by rw [hW3]; exact hrow
   have hS3 : Boxed W3 (H + 1) 9 (.string ⟨#[]⟩) := by rw [hW3]; exact hS
   have hE3 : Boxed W3 (H + 1 + 1 + 1) 28 (.int .i64 0) := by rw [hW3]; exact hE
   have hB3 : Below H w W3 := by rw [hW3]; exact below_drewN hB nq
   have hK3 : W3.heap[D]? = some (.deferred (some [])) := by rw [hW3]; exact hK
   rw [← hW3]
   clear hW3 hI hO hrow hL hS hE hB hLc hK
   have hO3c := hO3.cell
   have hO3f := hO3.frozen
   have hS3c := hS3.cell
   have hS3f := hS3.frozen
   have hE3c := hE3.cell
   have hE3f := hE3.frozen
   gi_wp2
   obtain ⟨W2, hW2⟩ : ∃ W2, W2 = ((W3.setCell ⟨H + 1, 0, none⟩ (.string ⟨#[]⟩)).setCell ⟨H + 1 + 1, 0, none⟩ (.slice none 0 0)).setCell ⟨H + 1 + 1 + 1, 0, none⟩ (.int .i64 4) := ⟨_, rfl⟩
   have hK2 : W2.heap[D]? = some (.deferred (some [])) := by
    rw [hW2]
    exact (((KeepsOthers.setCell W3 _ _).trans (KeepsOthers.setCell _ _ _)).trans (KeepsOthers.setCell _ _ _)).same D _ hK3 rfl
   obtain ⟨_, q2, q3, q4, q5⟩ := rd_stop (v1 := .string ⟨#[]⟩) (v2 := .slice none 0 0) (v3 := .int .i64 4) hS3 hO3 hE3 (KeepsFrom.refl 0 W3) hB3
   rw [← hW2] at q2 q3 q4 q5 ⊢
   clear hW2
   refine ⟨by simp, .inl ⟨_, _, rfl, run_takeDeferred hK2, ?_⟩⟩
   have p2 := q2.kept (grownBy_putObj' W2 D (.deferred none)) (by intro h; injection h with h; omega)
   have p3 := q3.kept (grownBy_putObj' W2 D (.deferred none)) (by intro h; injection h with h; omega)
   have p4 := q4.kept (grownBy_putObj' W2 D (.deferred none)) (by intro h; injection h with h; omega)
   have p5 := q5.trans (belowK_b (w := w) hHle W2 D _ (.deferred none) (by have := HH.out; omega) hK2 rfl rfl)
   rw [HH.out] at p5
   refine ⟨_, results_cells3 rfl _ _ _ _ _ _ _ _ rfl rfl rfl (load_boxR (.inl rfl) p2) (load_boxR (.inr (.inl rfl)) p3) (load_boxR (.inr (.inr rfl)) p4), none, 0, 0, ?_, ?_, p5⟩
   ·rw [HNo.out]
    have hg9 := HG.out
    unfold rdErr
    rw [hg9]
    rfl
   ·rw [HNo.out]; exact ReadsN.none_
  have h0z : ((v.size : Int) == 0) = false := by simp [h0]
  have h0y : (v.size == 0) = false := by simp [h0]
  by_cases h1 : (v.size : Int) = len
  rotate_left
  ·have h1z : ((v.size : Int) != len) = true := by simp [h1]
   have HNo := Lib.hid (show readV size s head len = none by rw [HRe.out, if_neg (by omega)])
   gi_quiet ((gi_at_call 103; exact CallsIn.quiet_of_same (callsIn_wide.2 (HLn _ (hI.drewN _)))))
   obtain ⟨W3, hW3⟩ : ∃ W3, W3 = W.drewN nq := ⟨_, rfl⟩
   have hI3 : IsBd (H + 1 + 1 + 1 + 1) v.data.toList W3 := by rw [hW3]; exact hI.drewN nq
   have hO3 : Boxed W3 (H + 1 + 1) 31 (.slice AV ys.length cV) := by rw [hW3]; exact hO
   have hrow3 : W3.ownsRow H 23 1 (.slice AV ys.length cV) ys.length (ucells (ys.map (·.1.p.pg))) := by rw [hW3]; exact hrow
   have hS3 : Boxed W3 (H + 1) 9 (.string ⟨#[]⟩) := by rw [hW3]; exact hS
   have hE3 : Boxed W3 (H + 1 + 1 + 1) 28 (.int .i64 0) := by rw [hW3]; exact hE
   have hB3 : Below H w W3 := by rw [hW3]; exact below_drewN hB nq
   have hK3 : W3.heap[D]? = some (.deferred (some [])) := by rw [hW3]; exact hK
   rw [← hW3]
   clear hW3 hI hO hrow hL hS hE hB hLc hK
   have hO3c := hO3.cell
   have hO3f := hO3.frozen
   have hS3c := hS3.cell
   have hS3f := hS3.frozen
   have hE3c := hE3.cell
   have hE3f := hE3.frozen
   gi_wp2
   obtain ⟨W2, hW2⟩ : ∃ W2, W2 = ((W3.setCell ⟨H + 1, 0, none⟩ (.string ⟨#[]⟩)).setCell ⟨H + 1 + 1, 0, none⟩ (.slice none 0 0)).setCell ⟨H + 1 + 1 + 1, 0, none⟩ (.int .i64 4) := ⟨_, rfl⟩
   have hK2 : W2.heap[D]? = some (.deferred (some [])) := by
    rw [hW2]
    exact (((KeepsOthers.setCell W3 _ _).trans (KeepsOthers.setCell _ _ _)).trans (KeepsOthers.setCell _ _ _)).same D _ hK3 rfl
   obtain ⟨_, q2, q3, q4, q5⟩ := rd_stop (v1 := .string ⟨#[]⟩) (v2 := .slice none 0 0) (v3 := .int .i64 4) hS3 hO3 hE3 (KeepsFrom.refl 0 W3) hB3
   rw [← hW2] at q2 q3 q4 q5 ⊢
   clear hW2
   refine ⟨by simp, .inl ⟨_, _, rfl, run_takeDeferred hK2, ?_⟩⟩
   have p2 := q2.kept (grownBy_putObj' W2 D (.deferred none)) (by intro h; injection h with h; omega)
   have p3 := q3.kept (grownBy_putObj' W2 D (.deferred none)) (by intro h; injection h with h; omega)
   have p4 := q4.kept (grownBy_putObj' W2 D (.deferred none)) (by intro h; injection h with h; omega)
   have p5 := q5.trans (belowK_b (w := w) hHle W2 D _ (.deferred none) (by have := HH.out; omega) hK2 rfl rfl)
   rw [HH.out] at p5
   refine ⟨_, results_cells3 rfl _ _ _ _ _ _ _ _ rfl rfl rfl (load_boxR (.inl rfl) p2) (load_boxR (.inr (.inl rfl)) p3) (load_boxR (.inr (.inr rfl)) p4), none, 0, 0, ?_, ?_, p5⟩
   ·rw [HNo.out]
    have hg9 := HG.out
    unfold rdErr
    rw [hg9]
    rfl
   ·rw [HNo.out]; exact ReadsN.none_
  have h1z : ((v.size : Int) != len) = false := by simp [h1]
  have HYes := Lib.hid (show readV size s head len = some (v, ys.map (·.1.p.pg)) by rw [HRe.out, if_pos (by omega)])
  clear h1
  gi_quiet ((gi_at_call 103; exact CallsIn.quiet_of_same (callsIn_wide.2 (HLn _ (hI.drewN _)))))
  obtain ⟨W3, hW3⟩ : ∃ W3, W3 = W.drewN nq := ⟨_, rfl⟩
  have hI3 : IsBd (H + 1 + 1 + 1 + 1) v.data.toList W3 := by rw [hW3]; exact hI.drewN nq
  have hO3 : Boxed W3 (H + 1 + 1) 31 (.slice AV ys.length cV) := by rw [hW3]; exact hO
  have hrow3 : W3.ownsRow H 23 1 (.slice AV ys.length cV) ys.length (ucells (ys.map (·.1.p.pg))) := by rw [hW3]; exact hrow
  have hS3 : Boxed W3 (H + 1) 9 (.string ⟨#[]⟩) := by rw [hW3]; exact hS
  have hE3 : Boxed W3 (H + 1 + 1 + 1) 28 (.int .i64 0) := by rw [hW3]; exact hE
  have hB3 : Below H w W3 := by rw [hW3]; exact below_drewN hB nq
  have hK3 : W3.heap[D]? = some (.deferred (some [])) := by rw [hW3]; exact hK
  rw [← hW3]
  clear hW3 hI hO hrow hL hS hE hB hLc hK
  clear HLn hwf
  have hI4 : IsBd (H + 1 + 1 + 1 + 1) v.data.toList W3.drew := hI3
  have hO4 : Boxed W3.drew (H + 1 + 1) 31 (.slice AV ys.length cV) := hO3
  have hO4c := hO4.cell
  have hmx : Tryz.prog.follows .mixedOrders = true := by kernel_rfl
  gi_upto_region 14 with fail
  have hcS : CallsIn Fence.wide (5 - 1) Tryz.prog 105 #[.pointer (some ⟨H + 1 + 1 + 1 + 1, 0, none⟩)] W3.drew fun e w' => e = .returned (.string v) ∧ ∃ W6, w' = W6 ∧ Boxed W6 (H + 1) 9 (.string ⟨#[]⟩) ∧ Boxed W6 (H + 1 + 1) 31 (.slice AV ys.length cV) ∧ Boxed W6 (H + 1 + 1 + 1) 28 (.int .i64 0) ∧ W6.ownsRow H 23 1 (.slice AV ys.length cV) ys.length (ucells (ys.map (·.1.p.pg))) ∧ Below H w W6 ∧ W6.heap[D]? = some (.deferred (some [])) := by
   refine (callsIn_wide.2 (bstring_any _ _ _ hI4)).mono ?_
   rintro e w6 ⟨rfl, _, hb6, hk6⟩
   refine ⟨?_, _, rfl, others_box hI4 hk6 hS3 (by decide), others_box hI4 hk6 hO3 (by decide), others_box hI4 hk6 hE3 (by decide), others_row hI4 hk6 hrow3 (by decide), hB3.drew.trans (hb6.mono (by omega)), others_block hI4 hk6 hK3 (fun cs t fz e => by cases e)⟩
   rfl
  gi_region_with_o (refine ⟨trivial, ?_⟩; gi_at_call 105; refine hcS.mono ?_; rintro e w6 ⟨rfl, W6, rfl, hS6, hO6, hE6, hrow6, hB6, hK6⟩; have hO6c := hO6.cell; have hO6f := hO6.frozen; have hS6c := hS6.cell; have hS6f := hS6.frozen; have hE6c := hE6.cell; have hE6f := hE6.frozen)
  all_goals gi_wp2
  all_goals
   obtain ⟨_, q2, q3, q4, q5⟩ := rd_stop (v1 := .string v) (v2 := .slice AV ys.length cV) (v3 := .int .i64 0) hS6 hO6 hE6 (KeepsFrom.refl 0 _) hB6
   have q6 := rd_row (v1 := .string v) (v2 := .slice AV ys.length cV) (v3 := .int .i64 0) hS6 hO6 hE6 hrow6
   have hK2 := (((KeepsOthers.setCell _ ⟨H + 1, 0, none⟩ (.string v)).trans (KeepsOthers.setCell _ ⟨H + 1 + 1, 0, none⟩ (.slice AV ys.length cV))).trans (KeepsOthers.setCell _ ⟨H + 1 + 1 + 1, 0, none⟩ (.int .i64 0))).same D _ hK6 rfl
   refine ⟨by simp, .inl ⟨_, _, rfl, run_takeDeferred hK2, ?_⟩⟩
   have p2 := q2.kept (grownBy_putObj' _ D (.deferred none)) (by intro h; injection h with h; omega)
   have p3 := q3.kept (grownBy_putObj' _ D (.deferred none)) (by intro h; injection h with h; omega)
   have p4 := q4.kept (grownBy_putObj' _ D (.deferred none)) (by intro h; injection h with h; omega)
   have p6 := ownsRow_putObj q6 (.deferred none) hK2 rfl
   have p5 := q5.trans (belowK_b (w := w) hHle _ D _ (.deferred none) (by have := HH.out; omega) hK2 rfl rfl)
   refine ⟨_, results_cells3 rfl _ _ _ _ _ _ _ _ rfl rfl rfl (load_boxR (.inl rfl) p2) (load_boxR (.inr (.inl rfl)) p3) (load_boxR (.inr (.inr rfl)) p4), AV, ys.length, cV, ?_, ?_, below_to HH.out p5⟩
   ·rw [HYes.out]
    have hg9 := HG.out
    unfold rdErr
    rw [hg9]
    rfl
   ·rw [HYes.out]; exact ReadsN.of_own p6 (by have := HH.out; omega)
 case stop =>
  rintro D c pre W hD hpre ⟨rfl, hbad, q2, q3, q4, q5⟩ hK2
  have HNo := Lib.hid (readV_bad_pre (len := len) hpre hbad)
  clear hbad hpre
  gi_wp2
  refine ⟨by simp, .inl ⟨_, _, rfl, run_takeDeferred hK2, ?_⟩⟩
  have p2 := q2.kept (grownBy_putObj' W D (.deferred none)) (by intro h; injection h with h; omega)
  have p3 := q3.kept (grownBy_putObj' W D (.deferred none)) (by intro h; injection h with h; omega)
  have p4 := q4.kept (grownBy_putObj' W D (.deferred none)) (by intro h; injection h with h; omega)
  have p5 := q5.trans (belowK_b (w := w) hHle W D _ (.deferred none) (by have := HH.out; omega) hK2 rfl rfl)
  rw [HH.out] at p5
  refine ⟨_, results_cells3 rfl _ _ _ _ _ _ _ _ rfl rfl rfl (load_boxR (.inl rfl) p2) (load_boxR (.inr (.inl rfl)) p3) (load_boxR (.inr (.inr rfl)) p4), none, 0, 0, ?_, ?_, p5⟩
  ·rw [HNo.out]
   have hg9 := HG.out
   unfold rdErr
   rw [hg9]
   rfl
  ·rw [HNo.out]; exact ReadsN.none_
end Go.Proofs.YtmmjckokjmpfpaaGreat


