/-
  Contracts of package device's write and truncate on images, and of the two closures that a device keeps, each with its conditions in its own statement.
-/
import Derived.Test.YtmkejkmgpigmhaaDevExt
import Derived.Test.YtmkejkmgpigmhaaDevDel
namespace Go.Proofs.Ytmkejkmgpigmhaa
open Go.RowKit
open Go.Lib hiding intOf
set_option linter.unusedVariables false
set_option linter.unusedSimpArgs false

section
variable {w : World} {g off size n c : Nat} {t : TypeId} {cs : Array Value} {A : Option Addr} {m : Img}

/-- What a call on an image leaves. -/
def ImgDone (w : World) (g off : Nat) (t : TypeId) (cs : Array Value) (size : Nat) (A : Option Addr) (n c : Nat) (m' : Img) (w' : World) : Prop :=
  ∃ cs' A' n' c', ImgIn w' g off t cs' size A' n' c' m' ∧ Rest3 off cs cs' ∧ Step g (.slice A n c) (.slice A' n' c') w w'

theorem own_set {w : World} {gg c n j : Nat} {l : List ByteArray} (h : w.ownsRow 0 9 1 (.slice (some ⟨gg, 0, none⟩) n c) n (strs l)) (b : ByteArray) :
    (w.setCell ⟨gg, j, none⟩ (.string b)).ownsRow 0 9 1 (.slice (some ⟨gg, 0, none⟩) n c) n (strs (l.set j b)) := by
  have := h.stored j (.string b)
  rw [strs, List.map_set]
  exact this.1

set_option maxHeartbeats 800000 in
theorem iwrite_any (h : ImgIn w g off t cs size A n c m) (ht : t ≠ 9) (hm : m.good size) (hs : size ≤ 4096) (k : Nat) (b : ByteArray) (hk : k < 1048576) (hn : n ≤ 1048576) :
    Calls Try.prog 39 #[.pointer (some ⟨g, off, none⟩), .int .u32 k, .string b] w fun e w' => e = .returned (.tuple #[]) ∧ ImgDone w g off t cs size A n c (m.write size k b) w' := by
  go_enter Try.func39, Try.ntmps39
  go_wp2_with fail
  refine (extend_any h ht hm hs (k + 1) (by omega) hn).mono ?_
  rintro e w1 ⟨rfl, cs1, A1, n1, c1, h1, hr1, hs1⟩
  have hn1 : k < n1 := by
    have := h1.len
    rw [this, Img.grow_pages]
    omega
  obtain ⟨gg, cap, hv, _, hlt⟩ := h1.own.form (by omega)
  injection hv with e1 e2 e3
  subst e1 e3
  obtain ⟨k0, k1, k2⟩ := h1.cells
  have hl := h1.len
  obtain ⟨pg, q1⟩ : ∃ pg, w1.cell? ⟨gg, k, none⟩ = some (.string pg) := ⟨_, own_str h1.own (by omega)⟩
  have fq := h1.own.frozenAt k
  have hne := own_ne_blk h1.own h1.blk (fun e => ht e.symm)
  have hgg : gg ≠ g := fun e => hne (by rw [e]; rfl)
  have HL := Lib.hid hl
  have b0 : (0 : Int) ≤ k := by omega
  have b1 : (k : Int) < n1 := by omega
  clear hl e2
  go_wp2_with fail
  go_end0
  refine ⟨rfl, cs1, some ⟨gg, 0, none⟩, n1, c1, ⟨h1.blk.far (p := ⟨gg, k, none⟩) (fun e => hgg e.symm) _, h1.z, h1.p, h1.r, own_set h1.own b⟩, hr1, hs1.1.setCell ?_ _, hs1.2⟩
  rcases hs1.2 gg rfl with h5 | h5
  · exact .inl (.inr h5)
  · exact .inr h5

set_option maxHeartbeats 800000 in
theorem itrunc_any (h : ImgIn w g off t cs size A n c m) (ht : t ≠ 9) (k : Nat) (hk : k ≤ 1048576) (hn : n ≤ 1048576) :
    Calls Try.prog 41 #[.pointer (some ⟨g, off, none⟩), .int .u32 k] w fun e w' => e = .returned (.tuple #[]) ∧ ImgDone w g off t cs size A n c (m.cutTo k) w' := by
  obtain ⟨k0, k1, k2⟩ := h.cells
  have f1 := h.blk.frozen (off + 1)
  have f2 := h.blk.frozen (off + 2)
  have hl := h.len
  have HL := Lib.hid hl
  clear hl
  by_cases hlt : n < k
  · go_enter Try.func41, Try.ntmps41
    go_wp2_with fail
    refine bodyPost_ret (results_none rfl _ _ _) rfl ?_
    refine ⟨rfl, cs, A, n, c, ?_, Rest3.refl _ _, Step.refl _ _ _⟩
    have e : m.cutTo k = m := by unfold Img.cutTo; rw [if_pos (by have := HL.out; omega)]
    rw [e]; exact h
  · have hkn : k ≤ n := by omega
    have ag := own_ne_blk h.own h.blk (fun e => ht e.symm)
    go_enter Try.func41, Try.ntmps41
    have wk : IntKind.i64.wrap (k : Int) = (k : Int) := by rw [IntKind.wrap_i64]; omega
    go_wp2_with fail
    go_region_with (go_at_call 56
                    (with_reducible refine (del_any k (World.ownsRow.drew h.own) hkn hn).mono ?_)
                    rintro e w1 ⟨rfl, ho1, hg1⟩
                    have hb1 := h.blk.drew.grown hg1 (Ne.symm ag)
                    have k1 := (hb1.cell (off + 1)).trans h.p
                    have k2 := (hb1.cell (off + 2)).trans h.r
                    have f1 := hb1.frozen (off + 1)
                    have f2 := hb1.frozen (off + 2))
    all_goals
      go_wp2_with fail
      go_end0
      have hb1 : Blk w1 g t cs := h.blk.drew.grown hg1 (Ne.symm ag)
      have hb2 := hb1.set_ (off + 1) (.slice A k c)
      have hown : w1.ownsRow 0 9 1 (.slice A k c) k (strs (m.pages.take k)) := ho1
      have hne := own_ne_blk hown hb1 (fun e => ht e.symm)
      have e : m.cutTo k = ⟨m.pages.take k, ⟨#[]⟩⟩ := by unfold Img.cutTo; rw [if_neg (by have := HL.out; omega)]
      rw [e]
      have hkp : Kept (fun i => i = g ∨ (Value.slice A n c).ownBlock = some i) w w1 := ((Kept.refl _ w).drew).grown hg1 fun i hi => .inl (.inr hi)
      refine ⟨rfl, _, A, k, c, ⟨hb2.set_ (off + 2) (.string ⟨#[]⟩), ?_, ?_, ?_, ?_⟩, (Rest3.set1 _ _ _).trans (Rest3.set2 _ _ _), (hkp.setCell (.inl (.inl rfl)) _).setCell (.inl (.inl rfl)) _, fun i hi => .inl (by rw [← hi]; cases A <;> rfl)⟩
      · rw [set_ne (by omega), set_ne (by omega)]; exact h.z
      · rw [set_ne (by omega)]; exact set_at h.p _
      · exact set_at ((set_ne (by omega) _).trans h.r) _
      · exact ownsRow_setCell_other (ownsRow_setCell_other hown hne _) hne _

/-! The closures that a device keeps. -/
/-- The function value of an operation: what it captured lies in boxes of their own. -/
def IsOp (w : World) (X : Nat → Prop) (fv : Value) : POp → Prop
  | .wr k b => ∃ x y, fv = .func (.func 38) #[] #[.pointer (some ⟨x, 0, none⟩), .pointer (some ⟨y, 0, none⟩)] ∧ Blk w x 30 #[.int .u32 k] ∧ Blk w y 9 #[.string b] ∧ X x ∧ X y
  | .tr k => ∃ x, fv = .func (.func 40) #[] #[.pointer (some ⟨x, 0, none⟩)] ∧ Blk w x 30 #[.int .u32 k] ∧ X x

theorem closw_any (h : ImgIn w g off t cs size A n c m) (ht : t ≠ 9) (hm : m.good size) (hs : size ≤ 4096) (k : Nat) (b : ByteArray) (hk : k < 1048576) (hn : n ≤ 1048576)
    {x y : Nat} (hx : Blk w x 30 #[.int .u32 k]) (hy : Blk w y 9 #[.string b]) :
    Calls Try.prog 38 #[.pointer (some ⟨g, off, none⟩), .pointer (some ⟨x, 0, none⟩), .pointer (some ⟨y, 0, none⟩)] w fun e w' => e = .returned (.tuple #[]) ∧ ImgDone w g off t cs size A n c (m.write size k b) w' := by
  have cx := hx.cell 0
  have cy := hy.cell 0
  simp at cx cy
  go_enter Try.func38, Try.ntmps38
  go_wp2_with (go_at_call 39; refine (iwrite_any h ht hm hs k b hk hn).mono ?_; rintro e w1 ⟨rfl, hd⟩)
  go_end0
  exact ⟨rfl, hd⟩
theorem clost_any (h : ImgIn w g off t cs size A n c m) (ht : t ≠ 9) (k : Nat) (hk : k ≤ 1048576) (hn : n ≤ 1048576) {x : Nat} (hx : Blk w x 30 #[.int .u32 k]) :
    Calls Try.prog 40 #[.pointer (some ⟨g, off, none⟩), .pointer (some ⟨x, 0, none⟩)] w fun e w' => e = .returned (.tuple #[]) ∧ ImgDone w g off t cs size A n c (m.cutTo k) w' := by
  have cx := hx.cell 0
  simp at cx
  go_enter Try.func40, Try.ntmps40
  go_wp2_with (go_at_call 41; refine (itrunc_any h ht k hk hn).mono ?_; rintro e w1 ⟨rfl, hd⟩)
  go_end0
  exact ⟨rfl, hd⟩
end
end Go.Proofs.Ytmkejkmgpigmhaa
