/-
  Contract of cursor.From: the iterator over the pairs of a tree that are not below a key.
-/
import Derived.Test.YtmmjckokjmpfpaaGreatJ48
set_option linter.unusedVariables false
set_option linter.unusedSimpArgs false
namespace Go.Proofs.YtmmjckokjmpfpaaGreat
open Go.RowKit Go.Shelf
attribute [local go_sem] Oper.semAt_some

def keepK (key : ByteArray) (x : Pr × Int) : Bool := !(decide (x.2 = 0) && Op.bytesLess x.1.ky.toList key.toList)
def fromS (size : Int) (s : ByteArray) (root : Nat) (key : ByteArray) : List (Pr × Int) := (treeS size s root).filter (keepK key)
section
variable {J Jx : List (Pr × Int) → (Nat → Prop) → World → Prop}
def FromI (J : List (Pr × Int) → (Nat → Prop) → World → Prop) (key : ByteArray) (yv : Value) (b4 b5 : Nat) (pre : List (Pr × Int)) (U : Nat → Prop) (W : World) : Prop :=
 ∃ Uo : Nat → Prop, (∀ k, U k ↔ Uo k ∨ k = b4 ∨ k = b5) ∧ ¬ Uo b4 ∧ ¬ Uo b5 ∧ J (pre.filter (keepK key)) Uo W ∧ Boxed W b4 9 (.string key) ∧ Boxed W b5 90 yv
def FromX (Jx : List (Pr × Int) → (Nat → Prop) → World → Prop) (XS : List (Pr × Int)) (b4 b5 : Nat) (c : Code) (pre : List (Pr × Int)) (U : Nat → Prop) (W : World) : Prop :=
 c = .ret ∧ ∃ (Uo : Nat → Prop) (q : List (Pr × Int)), (∀ k, Uo k → U k) ∧ (∀ k, U k → k < W.heap.size) ∧ q <+: XS ∧ Jx q Uo W
def FromA (J : List (Pr × Int) → (Nat → Prop) → World → Prop) (key : ByteArray) (yv : Value) (b4 b5 : Nat) (act : Nat → Pr × Int → Act) (pre : List (Pr × Int)) (x : Pr × Int) (a' : Act) (U : Nat → Prop) (W : World) : Prop :=
 ∃ (Uo : Nat → Prop) (bp : Nat), (∀ k, U k ↔ Uo k ∨ k = b4 ∨ k = b5 ∨ k = bp) ∧ ¬ Uo b4 ∧ ¬ Uo b5 ∧ ¬ Uo bp ∧ J (pre.filter (keepK key)) Uo W ∧ Boxed W b4 9 (.string key) ∧ Boxed W b5 90 yv ∧ Blk W bp 55 #[.string x.1.ky, .string x.1.vl] ∧ a' = act bp x
theorem fromI_stab (hs : StabU J) (key : ByteArray) (yv : Value) (b4 b5 : Nat) : StabU (FromI J key yv b4 b5) := fun pre U W W' h hk => by
 obtain ⟨Uo, h1, h2, h3, h4, h5, h6⟩ := h
 exact ⟨Uo, h1, h2, h3, hs _ _ _ _ h4 (hk.mono fun k hu => (h1 k).2 (.inl hu)), (hk.block b4 h5.lt ((h1 _).2 (.inr (.inl rfl)))).trans h5, (hk.block b5 h6.lt ((h1 _).2 (.inr (.inr rfl)))).trans h6⟩
theorem fromI_lt (hl : LtU J) (key : ByteArray) (yv : Value) (b4 b5 : Nat) : LtU (FromI J key yv b4 b5) := fun pre U W h k hk => by
 obtain ⟨Uo, h1, h2, h3, h4, h5, h6⟩ := h
 rcases (h1 k).1 hk with h | rfl | rfl
 ·exact hl _ _ _ h4 k h
 ·exact h5.lt
 ·exact h6.lt
theorem fromX_stab (hs : StabU Jx) (XS : List (Pr × Int)) (b4 b5 : Nat) (c : Code) : StabU (FromX Jx XS b4 b5 c) := fun pre U W W' h hk => by
 obtain ⟨h0, Uo, q, h1, h2, h3, h4⟩ := h
 exact ⟨h0, Uo, q, h1, fun k hu => Nat.lt_of_lt_of_le (h2 k hu) hk.size, h3, hs _ _ _ _ h4 (hk.mono h1)⟩
theorem fromX_lt (XS : List (Pr × Int)) (b4 b5 : Nat) (c : Code) : LtU (FromX Jx XS b4 b5 c) := fun pre U W h k hk => by
 obtain ⟨h0, Uo, q, h1, h2, h3, h4⟩ := h
 exact h2 k hk
theorem fromA_stab (hs : StabU J) (key : ByteArray) (yv : Value) (b4 b5 : Nat) (act : Nat → Pr × Int → Act) (pre : List (Pr × Int)) (x : Pr × Int) (a' : Act) : StabU (fun (_ : Unit) => FromA J key yv b4 b5 act pre x a') := fun _ U W W' h hk => by
 obtain ⟨Uo, bp, h1, h2, h3, h3', h4, h5, h6, h7, h8⟩ := h
 exact ⟨Uo, bp, h1, h2, h3, h3', hs _ _ _ _ h4 (hk.mono fun k hu => (h1 k).2 (.inl hu)), (hk.block b4 h5.lt ((h1 _).2 (.inr (.inl rfl)))).trans h5, (hk.block b5 h6.lt ((h1 _).2 (.inr (.inr (.inl rfl))))).trans h6, (hk.block bp h7.lt ((h1 _).2 (.inr (.inr (.inr rfl))))).trans h7, h8⟩
end
set_option maxRecDepth 100000 in
set_option maxHeartbeats 12800000 in
theorem from1_any {J Jx : List (Pr × Int) → (Nat → Prop) → World → Prop} {fy : Fn} {ay ly : Array Value} (sz : Int) (img : ByteArray) (root : Nat) (key : ByteArray) (H : Hears (fromS sz img root key) J Jx (.func fy ay ly)) (b1 b2 b3 b4 : Nat) (hi : img.size ≤ 400000) (hr : root < 4294967296) (U : Nat → Prop) (w : World)
  (c1 : Boxed w b1 3 (.int .i64 sz)) (c2 : Boxed w b2 9 (.string img)) (c3 : Boxed w b3 23 (.int .u32 root)) (c4 : Boxed w b4 9 (.string key)) (n4 : ¬ U b4) (hj : J [] U w) :
  Calls Tryz.prog 80 #[.func fy ay ly, .pointer (some ⟨b1, 0, none⟩), .pointer (some ⟨b2, 0, none⟩), .pointer (some ⟨b3, 0, none⟩), .pointer (some ⟨b4, 0, none⟩)] w fun e w' => (∃ v, e = .returned v) ∧ ∃ U', (J (fromS sz img root key) U' w' ∨ ∃ pre, pre <+: fromS sz img root key ∧ Jx pre U' w') := by
 refine (callsIn_wide (n := 9)).1 ?_
 refine callsIn_of_wp_marks Tryz.func80 rfl trivial ?_ rfl
 simp only [Tryz.ntmps80, List.size_toArray, List.length_cons, List.length_nil, Nat.reduceAdd, Nat.reduceSub, Array.replicate_succ, Array.replicate_zero, List.push_toArray, List.append_toArray, List.nil_append, List.cons_append]
 gi_upto_region 1 with fail
 obtain ⟨w0, hw0⟩ : ∃ y, y = w.alloc (.cells #[.func fy ay ly] 90) := ⟨_, rfl⟩
 rw [← hw0]
 have e1 : Boxed w0 b1 3 (.int .i64 sz) := by rw [hw0]; exact c1.alloc _
 have e2 : Boxed w0 b2 9 (.string img) := by rw [hw0]; exact c2.alloc _
 have e3 : Boxed w0 b3 23 (.int .u32 root) := by rw [hw0]; exact c3.alloc _
 have E4 := Lib.hid (show Boxed w0 b4 9 (.string key) by rw [hw0]; exact c4.alloc _)
 have E5 := Lib.hid (show Boxed w0 w.heap.size 90 (.func fy ay ly) by rw [hw0]; exact Boxed.new _ _ _)
 have HJ := Lib.hid (show J [] U w0 by rw [hw0]; exact H.sJ _ _ _ _ hj (KeepsU.alloc _ _ _))
 have HLt := Lib.hid (show ∀ k, U k → k < w.heap.size from H.lJ _ _ _ hj)
 have HS0 := Lib.hid (show w0.heap.size = w.heap.size + 1 by rw [hw0]; simp)
 have HL4 := Lib.hid c4.lt
 have d1 := e1.cell
 have d2 := e2.cell
 have d3 := e3.cell
 clear hw0 e1 e2 e3 c1 c2 c3 c4 hj
 gi_wp2_with (refine ⟨trivial, ?_⟩; gi_at_call 45; refine (callsIn_wide.2 (allmake_any sz img root w0)).mono ?_; rintro e w1 ⟨rfl, hw1⟩)
 obtain ⟨g, hg⟩ : ∃ g, g = w0.heap.size := ⟨_, rfl⟩
 rw [← hg]
 obtain ⟨w2, hw2⟩ : ∃ y, y = ((w0.alloc (.cells #[.int .i64 sz] 3)).alloc (.cells #[.string img] 9)).alloc (.cells #[.int .u32 root] 23) := ⟨_, rfl⟩
 rw [← hw2]
 have r1 : Boxed w2 g 3 (.int .i64 sz) := by rw [hw2, hg]; exact ((Boxed.new w0 3 (.int .i64 sz)).alloc _).alloc _
 have r2 : Boxed w2 (g + 1) 9 (.string img) := by
  have := (Boxed.new (w0.alloc (.cells #[.int .i64 sz] 3)) 9 (.string img)).alloc (.cells #[.int .u32 root] 23)
  rw [hw2, hg]; simpa using this
 have r3 : Boxed w2 (g + 1 + 1) 23 (.int .u32 root) := by
  have := Boxed.new ((w0.alloc (.cells #[.int .i64 sz] 3)).alloc (.cells #[.string img] 9)) 23 (.int .u32 root)
  rw [hw2, hg]; simpa using this
 have hb02 : Below w0.heap.size w0 w2 := by rw [hw2]; exact (((Below.refl _ _).alloc (Nat.le_refl _) _).alloc (by simp) _).alloc (by simp; omega) _
 have F4 := E4.out.kept (grown_of_below hb02) (by simp)
 have F5 := E5.out.kept (grown_of_below hb02) (by simp)
 have hJ2 : J [] U w2 := H.sJ _ _ _ _ HJ.out (KeepsU.of_below hb02)
 have hs2 : w2.heap.size = g + 3 := by rw [hw2, hg]; simp
 have hg1 : w.heap.size + 1 = g := by rw [hg]; exact HS0.out.symm
 clear hw2 hb02 E4 E5 HJ HS0 hg d1 d2 d3
 refine wpIn_rangeFunc_U (gf := 79) (lb := #[.pointer (some ⟨g, 0, none⟩), .pointer (some ⟨g + 1, 0, none⟩), .pointer (some ⟨g + 1 + 1, 0, none⟩)]) rfl (fun _ _ => by first | rfl | kernel_rfl) (all_seq sz img root g (g + 1) (g + 1 + 1) hi hr w2 r1 r2 r3) (Below.refl _ _) (by rintro k (rfl | rfl | rfl) <;> omega) (fun _ => rfl)
  (FromI J key (.func fy ay ly) b4 w.heap.size) (FromX Jx (fromS sz img root key) b4 w.heap.size)
  (FromA J key (.func fy ay ly) b4 w.heap.size (fun bp x => { tmps := #[.func fy ay ly, .pointer (some ⟨b1, 0, none⟩), .pointer (some ⟨b2, 0, none⟩), .pointer (some ⟨b3, 0, none⟩), .pointer (some ⟨b4, 0, none⟩), .pointer (some ⟨w.heap.size, 0, none⟩), .pointer (some ⟨bp, 0, none⟩), .int .i64 x.2, undef, .int .i64 sz, .string img, .int .u32 root, .func (.func 79) #[] #[.pointer (some ⟨g, 0, none⟩), .pointer (some ⟨g + 1, 0, none⟩), .pointer (some ⟨g + 1 + 1, 0, none⟩)], .agg #[.string x.1.ky, .string x.1.vl], .int .i64 x.2, undef, undef, undef, undef, undef, undef, undef, undef, undef, undef, undef, undef, undef, undef, undef, undef, undef], defers := [] }))
  (fromI_stab H.sJ _ _ _ _) (fun c => fromX_stab H.sJx _ _ _ c) (fun pre x a' => fromA_stab H.sJ _ _ _ _ _ pre x a') (fromI_lt H.lJ _ _ _ _) (fun c => fromX_lt _ _ _ c)
  (fun k => U k ∨ k = b4 ∨ k = w.heap.size) (by rintro k hk (h | h | h) <;> (try have := HLt.out _ h) <;> (have := HL4.out) <;> omega)
  ⟨U, fun _ => Iff.rfl, n4, fun h => Nat.lt_irrefl _ (HLt.out _ h), hJ2, F4, F5⟩ ?assign ?body ?done ?stop
 case assign =>
  intro m l pre x U' W K hI hx hK
  obtain ⟨Uo, hU, m4, m5, hJ, k4, k5⟩ := hI
  have hl := H.lJ _ _ _ hJ
  have HC := Lib.hid (hK _ (fun k => U' k ∨ k = W.heap.size) (W.alloc (.cells #[.string x.1.ky, .string x.1.vl] 55)) (fun k h => h.elim .inl (fun e => .inr (by omega))) ((Kept.refl _ _).alloc _)
   ⟨Uo, W.heap.size, fun k => ⟨fun h => h.elim (fun h => ((hU k).1 h).elim .inl (fun h => h.elim (fun h => .inr (.inl h)) (fun h => .inr (.inr (.inl h))))) (fun h => .inr (.inr (.inr h))), fun h => h.elim (fun h => .inl ((hU k).2 (.inl h))) (fun h => h.elim (fun h => .inl ((hU k).2 (.inr (.inl h)))) (fun h => h.elim (fun h => .inl ((hU k).2 (.inr (.inr h)))) .inr))⟩, m4, m5, fun h => Nat.lt_irrefl _ (hl _ h), H.sJ _ _ _ _ hJ (KeepsU.alloc _ _ _), k4.alloc _, k5.alloc _, Blk.new _ _ _, rfl⟩)
  clear hK hJ hU k4 k5 m4 m5 hl
  simp only [encP]
  gi_wp2
  exact HC.out
 case body =>
  rintro m l pre x a' U' W ⟨Uo, bp, hU, m4, m5, mp, hJ, k4, k5, kp, rfl⟩ hx
  obtain ⟨⟨ky, vl⟩, er⟩ := x
  dsimp only at kp ⊢
  have q0 := kp.cell 0
  have q1 := kp.cell 1
  have q4 := k4.cell
  have q5 := k5.cell
  simp at q0 q1
  have HF := Lib.hid (show (pre ++ [((⟨ky, vl⟩ : Pr), er)]).filter (keepK key) = pre.filter (keepK key) ++ (if keepK key (⟨ky, vl⟩, er) then [(⟨ky, vl⟩, er)] else []) by rw [List.filter_append, List.filter_cons, List.filter_nil])
  have HX := Lib.hid (show (pre ++ [((⟨ky, vl⟩ : Pr), er)]).filter (keepK key) <+: fromS sz img root key from hx.filter _)
  have HJo := Lib.hid hJ
  have HU := Lib.hid hU
  have K4 := Lib.hid k4
  have K5 := Lib.hid k5
  have M4 := Lib.hid m4
  have M5 := Lib.hid m5
  have HLo := Lib.hid (show ∀ k, Uo k → k < W.heap.size from H.lJ _ _ _ hJ)
  clear hJ hU k4 k5 kp m4 m5 mp hx
  -- what a round leaves where the hearer goes on, or has gone on without it
  have hgo : ∀ W', RoundU J ((pre ++ [((⟨ky, vl⟩ : Pr), er)]).filter (keepK key)) Uo W W' → RoundU (FromI J key (.func fy ay ly) b4 w.heap.size) (pre ++ [((⟨ky, vl⟩ : Pr), er)]) U' W W' := fun W' h => by
   obtain ⟨U2, g1, g2, g3⟩ := h
   have j4 : ¬ U2 b4 := fun h => by rcases g1 _ h with h1 | h1; exact M4.out h1; have := K4.out.lt; omega
   have j5 : ¬ U2 w.heap.size := fun h => by rcases g1 _ h with h1 | h1; exact M5.out h1; have := K5.out.lt; omega
   refine ⟨fun k => U2 k ∨ k = b4 ∨ k = w.heap.size, fun k hk => ?_, g2.mono fun k h => (HU.out k).2 (.inl h), U2, fun _ => Iff.rfl, j4, j5, g3, (g2.block _ K4.out.lt M4.out).trans K4.out, (g2.block _ K5.out.lt M5.out).trans K5.out⟩
   rcases hk with h | rfl | rfl
   ·rcases g1 k h with h1 | h1
    ·exact .inl ((HU.out k).2 (.inl h1))
    ·exact .inr h1
   ·exact .inl ((HU.out _).2 (.inr (.inl rfl)))
   ·exact .inl ((HU.out _).2 (.inr (.inr (.inl rfl))))
  have hnx : ∀ W' q, q <+: fromS sz img root key → RoundU Jx q Uo W W' → RoundU (FromX Jx (fromS sz img root key) b4 w.heap.size .ret) (pre ++ [((⟨ky, vl⟩ : Pr), er)]) U' W W' := fun W' q hq h => by
   obtain ⟨U2, g1, g2, g3⟩ := h
   refine ⟨U2, fun k hk => ?_, g2.mono fun k h => (HU.out k).2 (.inl h), rfl, U2, q, fun _ h => h, H.lJx _ _ _ g3, hq, g3⟩
   rcases g1 k hk with h1 | h1
   ·exact .inl ((HU.out k).2 (.inl h1))
   ·exact .inr h1
  have HGo := Lib.hid hgo
  have HNx := Lib.hid hnx
  clear hgo hnx
  have hwf : ∀ f, Fence.wide.fn f = True := fun _ => rfl
  by_cases he : er = 0
  ·subst he
   rcases hb : Op.bytesLess ky.toList key.toList with _ | _
   ·have HK := Lib.hid (show keepK key (⟨ky, vl⟩, 0) = true by unfold keepK; simp [hb])
    rw [HK.out] at HF
    have HY := H.tell (pre.filter (keepK key)) (⟨ky, vl⟩, 0) Uo W HJo.out (by have h := HX.out; rw [HF.out] at h; simpa using h)
    simp only [encP] at HY
    have HFe := Lib.hid (show (pre ++ [((⟨ky, vl⟩ : Pr), (0 : Int))]).filter (keepK key) = pre.filter (keepK key) ++ [(⟨ky, vl⟩, 0)] by rw [HF.out]; rfl)
    clear HF
    rcases HY with ⟨l', fn, tmps, assign, body, hyv, hy, hR⟩ | ⟨g, lb, hyv, eg, hR⟩
    ·injection hyv with hy1 hy2 hy3
     subst hy1 hy2 hy3
     gi_wp2
     refine ⟨fun h => by simp [Fence.wide] at h, ?_⟩
     refine RoundIn.mono (show RoundIn (Fence.wide.inRound l) _ Tryz.prog l' fn tmps assign body W _ from hR _) ?_
     clear hR hy
     rintro e w7 h
     rw [← HFe.out] at h
     rcases h with ⟨rfl, h⟩ | ⟨rfl, h⟩
     ·have HP := Lib.hid (HGo.out _ h)
      clear h
      gi_wp2
      exact HP.out
     ·have HP := Lib.hid (HNx.out _ _ HX.out h)
      clear h
      gi_wp2
      exact HP.out
    ·injection hyv with hy1 hy2 hy3
     subst hy1 hy2 hy3
     gi_wp2
     refine ⟨fun h => by simp [Fence.wide] at h, ?_⟩
     refine (CallsIn.inRound l (callsIn_wide.2 hR)).mono ?_
     clear hR eg
     rintro e w7 h
     rw [← HFe.out] at h
     rcases h with ⟨rfl, h⟩ | ⟨rfl, h⟩
     ·have HP := Lib.hid (HGo.out _ h)
      clear h
      gi_wp2
      exact HP.out
     ·have HP := Lib.hid (HNx.out _ _ HX.out h)
      clear h
      gi_wp2
      exact HP.out
   ·have HK := Lib.hid (show keepK key (⟨ky, vl⟩, 0) = false by unfold keepK; simp [hb])
    rw [HK.out] at HF
    have HP := Lib.hid (HGo.out W ⟨Uo, fun k h => .inl h, Kept.refl _ _, by rw [HF.out]; simpa using HJo.out⟩)
    clear HF
    gi_wp2
    exact HP.out
  ·have he1 : (er == 0) = false := by simpa using he
   have HK := Lib.hid (show keepK key (⟨ky, vl⟩, er) = true by unfold keepK; simp [he])
   rw [HK.out] at HF
   have HY := H.tell (pre.filter (keepK key)) (⟨ky, vl⟩, er) Uo W HJo.out (by have h := HX.out; rw [HF.out] at h; simpa using h)
   simp only [encP] at HY
   have HFe := Lib.hid (show (pre ++ [((⟨ky, vl⟩ : Pr), (er : Int))]).filter (keepK key) = pre.filter (keepK key) ++ [(⟨ky, vl⟩, er)] by rw [HF.out]; rfl)
   clear HF
   rcases HY with ⟨l', fn, tmps, assign, body, hyv, hy, hR⟩ | ⟨g, lb, hyv, eg, hR⟩
   ·injection hyv with hy1 hy2 hy3
    subst hy1 hy2 hy3
    gi_wp2
    refine ⟨fun h => by simp [Fence.wide] at h, ?_⟩
    refine RoundIn.mono (show RoundIn (Fence.wide.inRound l) _ Tryz.prog l' fn tmps assign body W _ from hR _) ?_
    clear hR hy
    rintro e w7 h
    rw [← HFe.out] at h
    rcases h with ⟨rfl, h⟩ | ⟨rfl, h⟩
    ·have HP := Lib.hid (HGo.out _ h)
     clear h
     gi_wp2
     exact HP.out
    ·have HP := Lib.hid (HNx.out _ _ HX.out h)
     clear h
     gi_wp2
     exact HP.out
   ·injection hyv with hy1 hy2 hy3
    subst hy1 hy2 hy3
    gi_wp2
    refine ⟨fun h => by simp [Fence.wide] at h, ?_⟩
    refine (CallsIn.inRound l (callsIn_wide.2 hR)).mono ?_
    clear hR eg
    rintro e w7 h
    rw [← HFe.out] at h
    rcases h with ⟨rfl, h⟩ | ⟨rfl, h⟩
    ·have HP := Lib.hid (HGo.out _ h)
     clear h
     gi_wp2
     exact HP.out
    ·have HP := Lib.hid (HNx.out _ _ HX.out h)
     clear h
     gi_wp2
     exact HP.out
 case done =>
  rintro D U' W hD hnD ⟨Uo, hU, m4, m5, hJ, k4, k5⟩ hK
  have HP := Lib.hid (show ∃ U', (J (fromS sz img root key) U' (W.putObj D (.deferred none)) ∨ ∃ pre, pre <+: fromS sz img root key ∧ Jx pre U' (W.putObj D (.deferred none))) from ⟨Uo, .inl (H.sJ _ _ _ _ hJ (keepsU_put _ _ fun h => hnD ((hU D).2 (.inl h))))⟩)
  clear hJ hU k4 k5
  gi_wp2
  refine ⟨by simp, .inl ⟨_, _, rfl, run_takeDeferred hK, ?_⟩⟩
  exact ⟨_, results_none rfl _ _ _, ⟨_, rfl⟩, HP.out⟩
 case stop =>
  rintro D c pre U' W hD hnD hpre ⟨rfl, Uo, q, hU, hlt, hq, hJ⟩ hK
  have HP := Lib.hid (show ∃ U', (J (fromS sz img root key) U' (W.putObj D (.deferred none)) ∨ ∃ pre, pre <+: fromS sz img root key ∧ Jx pre U' (W.putObj D (.deferred none))) from ⟨Uo, .inr ⟨q, hq, H.sJx _ _ _ _ hJ (keepsU_put _ _ fun h => hnD (hU D h))⟩⟩)
  clear hJ hU hq
  gi_wp2
  refine ⟨by simp, .inl ⟨_, _, rfl, run_takeDeferred hK, ?_⟩⟩
  exact ⟨_, results_none rfl _ _ _, ⟨_, rfl⟩, HP.out⟩
theorem frommake_any (sz : Int) (img : ByteArray) (root : Nat) (key : ByteArray) (w : World) :
  Calls Tryz.prog 46 #[.int .i64 sz, .string img, .int .u32 root, .string key] w fun e w' => e = .returned (.func (.func 80) #[] #[.pointer (some ⟨w.heap.size, 0, none⟩), .pointer (some ⟨w.heap.size + 1, 0, none⟩), .pointer (some ⟨w.heap.size + 1 + 1, 0, none⟩), .pointer (some ⟨w.heap.size + 1 + 1 + 1, 0, none⟩)]) ∧
   w' = (((w.alloc (.cells #[.int .i64 sz] 3)).alloc (.cells #[.string img] 9)).alloc (.cells #[.int .u32 root] 23)).alloc (.cells #[.string key] 9) := by
 have hmf : ∀ (fn : Fn) (first cap : Array Value) (w : World), (Instr.makeFunc fn first cap).run Tryz.prog w = .ok (.func fn first cap) w := fun _ _ _ _ => rfl
 go_enter Tryz.func46, Tryz.ntmps46
 go_wp2_with fail
 go_ret
 exact ⟨by simp [Nat.add_assoc], rfl⟩
theorem from_seq (sz : Int) (img : ByteArray) (root : Nat) (key : ByteArray) (b1 b2 b3 b4 : Nat) (hi : img.size ≤ 400000) (hr : root < 4294967296) (w : World)
  (c1 : Boxed w b1 3 (.int .i64 sz)) (c2 : Boxed w b2 9 (.string img)) (c3 : Boxed w b3 23 (.int .u32 root)) (c4 : Boxed w b4 9 (.string key)) :
  SeqU Tryz.prog 80 #[.pointer (some ⟨b1, 0, none⟩), .pointer (some ⟨b2, 0, none⟩), .pointer (some ⟨b3, 0, none⟩), .pointer (some ⟨b4, 0, none⟩)] encP (fromS sz img root key) (fun k => k = b1 ∨ k = b2 ∨ k = b3 ∨ k = b4) w := fun l n J Jx U0 W hW sJ sJx lJ lJx hM hY h0 =>
 callsIn_wide.2 (from1_any (fy := .yield l) (ay := #[]) (ly := #[]) sz img root key ⟨sJ, sJx, lJ, lJx, fun pre x U W1 hj hx => YieldsTo.of_yield (hY 0 pre x U W1 hj hx)⟩ b1 b2 b3 b4 hi hr U0 W ((hW.block b1 c1.lt).trans c1) ((hW.block b2 c2.lt).trans c2) ((hW.block b3 c3.lt).trans c3) ((hW.block b4 c4.lt).trans c4) (hM b4 (.inr (.inr (.inr rfl)))) h0)
end Go.Proofs.YtmmjckokjmpfpaaGreat

