/-
  Contracts of the methods that turn a device (Fuse, Write, Truncate, Sync, Crash), each with its conditions in its own statement.
-/
import Derived.Test.YtmkejkmgpigmhaaDev
namespace Go.Proofs.Ytmkejkmgpigmhaa
open Go.RowKit
open Go.Lib hiding intOf
set_option linter.unusedVariables false
set_option linter.unusedSimpArgs false

section
variable {w w' : World} {F G : Nat → Prop} {g : Nat} {S : DevS} {m1 m2 : Img} {A1 : Option Addr} {n1 c1 : Nat} {A2 : Option Addr} {n2 c2 : Nat} {A3 : Option Addr} {n3 c3 : Nat} {X : Nat → Prop} {pc : List Value}
theorem DevAt.ne1 (h : DevAt w F g S m1 m2 A1 n1 c1 A2 n2 c2 A3 n3 c3 X pc) : (Value.slice A1 n1 c1).ownBlock ≠ some g := own_ne_blk h.own1 h.blk (by decide)
theorem DevAt.ne2 (h : DevAt w F g S m1 m2 A1 n1 c1 A2 n2 c2 A3 n3 c3 X pc) : (Value.slice A2 n2 c2).ownBlock ≠ some g := own_ne_blk h.own2 h.blk (by decide)
theorem DevAt.ne3 (h : DevAt w F g S m1 m2 A1 n1 c1 A2 n2 c2 A3 n3 c3 X pc) : (Value.slice A3 n3 c3).ownBlock ≠ some g := own_ne_blk h.own3 h.blk (by decide)
/-- A store into the device's own block. -/
theorem DevAt.store (h : DevAt w F g S m1 m2 A1 n1 c1 A2 n2 c2 A3 n3 c3 X pc) {S' : DevS} (i : Nat) (u : Value)
    (hc : (devCells g S A1 n1 c1 m1.rest A2 n2 c2 m2.rest A3 n3 c3).setIfInBounds i u = devCells g S' A1 n1 c1 m1.rest A2 n2 c2 m2.rest A3 n3 c3)
    (e1 : S'.size = S.size) (e2 : S'.cap = S.cap) (e3 : S'.img = S.img) (e4 : S'.dur = S.dur) (e5 : S'.pend = S.pend) (e6 : S.ops ≤ S'.ops) :
    DevAt (w.setCell ⟨g, i, none⟩ u) F g S' m1 m2 A1 n1 c1 A2 n2 c2 A3 n3 c3 X pc := by
  have hk : Kept (fun k => k = g) w (w.setCell ⟨g, i, none⟩ u) := Kept.setCell (F := fun k => k = g) (Kept.refl _ _) (p := ⟨g, i, none⟩) (.inl rfl) _
  exact
  { blk := by rw [← hc]; exact h.blk.set_ i u
    own1 := ownsRow_setCell_other h.own1 h.ne1 _
    own2 := ownsRow_setCell_other h.own2 h.ne2 _
    own3 := ownsRow_setCell_other h.own3 h.ne3 _
    lo := by rw [e1]; exact h.lo
    hi := by rw [e1]; exact h.hi
    capHi := by rw [e2]; exact h.capHi
    good1 := by rw [e1]; exact h.good1
    good2 := by rw [e1]; exact h.good2
    b1 := by rw [e3]; exact h.b1
    b2 := by rw [e4]; exact h.b2
    p1 := by rw [e2]; exact h.p1
    p2 := by rw [e2]; exact h.p2
    np := by rw [e5]; exact h.np
    each := fun j o hj => by
      rw [e5] at hj
      obtain ⟨h1, fv, h2, h3⟩ := h.each j o hj
      exact ⟨by rw [e1, e2]; exact h1, fv, h2, h3.kept hk fun k hx e => h.gX (e ▸ hx)⟩
    few := by rw [e5]; exact Nat.le_trans h.few e6
    Fg := h.Fg, F1 := h.F1, F2 := h.F2, F3 := h.F3, FX := h.FX, gX := h.gX, apart := h.apart
    Flt := fun k hk' => by have := h.Flt k hk'; simpa [World.setCell] using this }
theorem grow_lt (h : ∀ k, F k → k < w.heap.size) (hs : w.heap.size ≤ w'.heap.size) : ∀ k, Grow F w w' k → k < w'.heap.size := by
  rintro k (h1 | ⟨_, h1⟩)
  · exact Nat.lt_of_lt_of_le (h k h1) hs
  · exact h1
theorem IsOp.mono {X Y : Nat → Prop} {w : World} {fv : Value} {o : POp} (h : IsOp w X fv o) (hn : ∀ k, X k → Y k) : IsOp w Y fv o := by
  cases o with
  | wr k b =>
    obtain ⟨x, y, hfv, hx, hy, h1, h2⟩ := h
    exact ⟨x, y, hfv, hx, hy, hn _ h1, hn _ h2⟩
  | tr k =>
    obtain ⟨x, hfv, hx, h1⟩ := h
    exact ⟨x, hfv, hx, hn _ h1⟩
theorem IsOp.lt {X : Nat → Prop} {w : World} {fv : Value} {o : POp} (h : IsOp w X fv o) : fv.oneCell' = true := by
  cases o with
  | wr k b =>
    obtain ⟨x, y, hfv, hx, hy, h1, h2⟩ := h
    subst hfv; rfl
  | tr k =>
    obtain ⟨x, hfv, hx, h1⟩ := h
    subst hfv; rfl
/-- What the append to the pending operations leaves of the device. -/
theorem DevAt.push (h : DevAt w F g S m1 m2 A1 n1 c1 A2 n2 c2 A3 n3 c3 X pc) {o : POp} (ho : o.ok S.size S.cap) {Y : Nat → Prop} {fv : Value} (hop : IsOp w Y fv o) (hY : ∀ k, Y k → k < w.heap.size ∧ ¬ F k) (hfew : S.pend.length + 1 ≤ S.ops)
    {w3 : World} {gg cap : Nat} {ob : Obj} (hg : (w.alloc ob).grownBy w3 (Value.slice A3 n3 c3).ownBlock) (hown : w3.ownsRow 0 74 1 (.slice (some ⟨gg, 0, none⟩) (n3 + 1) cap) (n3 + 1) (pc ++ [fv]))
    (hat : (Value.slice A3 n3 c3).ownBlock = some gg ∨ gg = w.heap.size + 1) :
    DevAt (w3.setCell ⟨g, 9, none⟩ (.slice (some ⟨gg, 0, none⟩) (n3 + 1) cap)) (fun k => Grow F w (w3.setCell ⟨g, 9, none⟩ (.slice (some ⟨gg, 0, none⟩) (n3 + 1) cap)) k ∨ Y k) g { S with pend := S.pend ++ [o] } m1 m2 A1 n1 c1 A2 n2 c2 (some ⟨gg, 0, none⟩) (n3 + 1) cap (fun k => X k ∨ Y k) (pc ++ [fv]) ∧
    Kept F w (w3.setCell ⟨g, 9, none⟩ (.slice (some ⟨gg, 0, none⟩) (n3 + 1) cap)) := by
  have hk : Kept (fun i => i = g ∨ (Value.slice A3 n3 c3).ownBlock = some i) w (w3.setCell ⟨g, 9, none⟩ (.slice (some ⟨gg, 0, none⟩) (n3 + 1) cap)) :=
    (((Kept.refl _ w).alloc ob).grown hg fun i hi => .inl (.inr hi)).setCell (.inl (.inl rfl)) _
  have hkF : Kept F w (w3.setCell ⟨g, 9, none⟩ (.slice (some ⟨gg, 0, none⟩) (n3 + 1) cap)) := hk.mono (by rintro k (rfl | hk'); exact h.Fg; exact (h.F3 k hk').1)
  have hb3 : Blk w3 g 70 (devCells g S A1 n1 c1 m1.rest A2 n2 c2 m2.rest A3 n3 c3) := (h.blk.alloc ob).grown hg (Ne.symm h.ne3)
  have hlen : pc.length = n3 := by have := h.own3.1; omega
  have hlt3 : gg < (w3.setCell ⟨g, 9, none⟩ (.slice (some ⟨gg, 0, none⟩) (n3 + 1) cap)).heap.size := by have := (hown.lt gg rfl).2; simpa [World.setCell] using this
  refine ⟨{ h with
    blk := hb3.set_ 9 _
    own1 := hk.own h.own1 ?_
    own2 := hk.own h.own2 ?_
    own3 := ownsRow_setCell_other hown (own_ne_blk hown hb3 (by decide)) _
    np := by show n3 + 1 = (S.pend ++ [o]).length; rw [List.length_append, ← h.np]; rfl
    each := fun j o' hj => ?_
    few := by show (S.pend ++ [o]).length ≤ S.ops; rw [List.length_append]; exact hfew
    Fg := .inl (.inl h.Fg)
    F1 := fun k hk' => ⟨.inl (.inl (h.F1 k hk').1), ?_⟩
    F2 := fun k hk' => ⟨.inl (.inl (h.F2 k hk').1), ?_⟩
    F3 := fun k hk' => ?_
    FX := fun k hk' => hk'.elim (fun hx => .inl (.inl (h.FX k hx))) .inr
    gX := fun hx => hx.elim h.gX fun hy => (hY g hy).2 h.Fg
    Flt := ?_ }, hkF⟩
  · rintro k h2 (rfl | h1)
    · exact h.ne1 h2
    · exact own_ne_own h.own1 h.own3 (by decide) h2 h1
  · rintro k h2 (rfl | h1)
    · exact h.ne2 h2
    · exact own_ne_own h.own2 h.own3 (by decide) h2 h1
  · have hX : ∀ k, X k ∨ Y k → ¬ (k = g ∨ (Value.slice A3 n3 c3).ownBlock = some k) := by
      rintro k (hx | hy) (rfl | h1)
      · exact h.gX hx
      · exact (h.F3 k h1).2 hx
      · exact (hY _ hy).2 h.Fg
      · exact (hY _ hy).2 (h.F3 k h1).1
    by_cases hjl : j < S.pend.length
    · rw [show ({ S with pend := S.pend ++ [o] } : DevS).pend = S.pend ++ [o] from rfl, List.getElem?_append_left hjl] at hj
      obtain ⟨h1, fv', h2, h3⟩ := h.each j o' hj
      refine ⟨h1, fv', ?_, (h3.mono fun k hx => .inl hx).kept hk hX⟩
      rw [List.getElem?_append_left (by rw [hlen, h.np]; exact hjl)]
      exact h2
    · rw [show ({ S with pend := S.pend ++ [o] } : DevS).pend = S.pend ++ [o] from rfl, List.getElem?_append_right (by omega)] at hj
      have hj0 : j - S.pend.length = 0 := by
        have := (List.getElem?_eq_some_iff.1 hj).1
        simp at this
        omega
      rw [hj0] at hj
      simp at hj
      subst hj
      refine ⟨ho, fv, ?_, (hop.mono fun k hy => .inr hy).kept hk hX⟩
      rw [List.getElem?_append_right (by rw [hlen, h.np]; omega), hlen, h.np, hj0]
      rfl
  · exact fun hx => hx.elim (h.F1 k hk').2 fun hy => (hY k hy).2 (h.F1 k hk').1
  · exact fun hx => hx.elim (h.F2 k hk').2 fun hy => (hY k hy).2 (h.F2 k hk').1
  · have e : gg = k := by simpa [Value.ownBlock] using hk'
    subst e
    rcases hat with h1 | h1
    · exact ⟨.inl (.inl (h.F3 gg h1).1), fun hx => hx.elim (h.F3 gg h1).2 fun hy => (hY gg hy).2 (h.F3 gg h1).1⟩
    · refine ⟨.inl (.inr ⟨by omega, hlt3⟩), ?_⟩
      rintro (hx | hy)
      · have := h.Flt _ (h.FX _ hx); omega
      · have := (hY _ hy).1; omega
  · rintro k (hk' | hy)
    · exact grow_lt h.Flt hk.size k hk'
    · exact Nat.lt_of_lt_of_le (hY k hy).1 hk.size
/-- What an operation on the image leaves of the device. -/
theorem DevAt.done1 (h : DevAt w F g S m1 m2 A1 n1 c1 A2 n2 c2 A3 n3 c3 X pc) {o : POp} (ho : o.ok S.size S.cap)
    (hd : ImgDone w g 3 70 (devCells g S A1 n1 c1 m1.rest A2 n2 c2 m2.rest A3 n3 c3) S.size A1 n1 c1 (m1.does S.size o) w') :
    ∃ A n c, DevAt w' (Grow F w w') g { S with img := o.on S.size S.img } (m1.does S.size o) m2 A n c A2 n2 c2 A3 n3 c3 X pc ∧ Kept F w w' := by
  obtain ⟨cs', A, n, c, hI, hr, hk, hn⟩ := hd
  have e : cs' = devCells g { S with img := o.on S.size S.img } A n c (m1.does S.size o).rest A2 n2 c2 m2.rest A3 n3 c3 := by
    apply Array.ext_getElem?
    intro i
    by_cases h4 : i = 4
    · subst h4; exact hI.p
    · by_cases h5 : i = 5
      · subst h5; exact hI.r
      · rw [hr.2 i h4 h5]
        have : devCells g { S with img := o.on S.size S.img } A n c (m1.does S.size o).rest A2 n2 c2 m2.rest A3 n3 c3 = ((devCells g S A1 n1 c1 m1.rest A2 n2 c2 m2.rest A3 n3 c3).setIfInBounds 4 (.slice A n c)).setIfInBounds 5 (.string (m1.does S.size o).rest) := rfl
        rw [this, set_ne (Ne.symm h5), set_ne (Ne.symm h4)]
  subst e
  have hkF : Kept F w w' := hk.mono (by rintro k (rfl | hk'); exact h.Fg; exact (h.F1 k hk').1)
  refine ⟨A, n, c, { h with
    blk := hI.blk
    own1 := hI.own
    own2 := hk.own h.own2 ?_
    own3 := hk.own h.own3 ?_
    good1 := Img.does_good h.good1 ho
    b1 := by rw [Img.does_bytes h.good1 ho, h.b1]
    p1 := Img.does_pages h.p1 ho
    each := fun j o' hj => ?_
    Fg := .inl h.Fg
    F1 := fun k hk' => ?_
    F2 := fun k hk' => ⟨.inl (h.F2 k hk').1, (h.F2 k hk').2⟩
    F3 := fun k hk' => ⟨.inl (h.F3 k hk').1, (h.F3 k hk').2⟩
    FX := fun k hk' => .inl (h.FX k hk')
    apart := fun k hk' hk2 => ?_
    Flt := grow_lt h.Flt hk.size }, hkF⟩
  · rintro k h2 (rfl | h1)
    · exact h.ne2 h2
    · exact h.apart k h1 h2
  · rintro k h3 (rfl | h1)
    · exact h.ne3 h3
    · exact own_ne_own h.own1 h.own3 (by decide) h1 h3
  · obtain ⟨h1, fv, h2, h3⟩ := h.each j o' hj
    exact ⟨h1, fv, h2, h3.kept hk (by rintro k hx (rfl | h1); exact h.gX hx; exact (h.F1 k h1).2 hx)⟩
  · rcases hn k hk' with h1 | h1
    · exact ⟨.inl (h.F1 k h1).1, (h.F1 k h1).2⟩
    · exact ⟨.inr ⟨h1, (hI.own.lt k hk').2⟩, fun hx => by have := h.Flt k (h.FX k hx); omega⟩
  · rcases hn k hk' with h1 | h1
    · exact h.apart k h1 hk2
    · have := (h.own2.lt k hk2).2; omega
/-- What an operation on the durable bytes leaves of the device. -/
theorem DevAt.done2 (h : DevAt w F g S m1 m2 A1 n1 c1 A2 n2 c2 A3 n3 c3 X pc) {o : POp} (ho : o.ok S.size S.cap)
    (hd : ImgDone w g 6 70 (devCells g S A1 n1 c1 m1.rest A2 n2 c2 m2.rest A3 n3 c3) S.size A2 n2 c2 (m2.does S.size o) w') :
    ∃ A n c, DevAt w' (Grow F w w') g { S with dur := o.on S.size S.dur } m1 (m2.does S.size o) A1 n1 c1 A n c A3 n3 c3 X pc ∧ Kept F w w' := by
  obtain ⟨cs', A, n, c, hI, hr, hk, hn⟩ := hd
  have e : cs' = devCells g { S with dur := o.on S.size S.dur } A1 n1 c1 m1.rest A n c (m2.does S.size o).rest A3 n3 c3 := by
    apply Array.ext_getElem?
    intro i
    by_cases h4 : i = 7
    · subst h4; exact hI.p
    · by_cases h5 : i = 8
      · subst h5; exact hI.r
      · rw [hr.2 i h4 h5]
        have : devCells g { S with dur := o.on S.size S.dur } A1 n1 c1 m1.rest A n c (m2.does S.size o).rest A3 n3 c3 = ((devCells g S A1 n1 c1 m1.rest A2 n2 c2 m2.rest A3 n3 c3).setIfInBounds 7 (.slice A n c)).setIfInBounds 8 (.string (m2.does S.size o).rest) := rfl
        rw [this, set_ne (Ne.symm h5), set_ne (Ne.symm h4)]
  subst e
  have hkF : Kept F w w' := hk.mono (by rintro k (rfl | hk'); exact h.Fg; exact (h.F2 k hk').1)
  refine ⟨A, n, c, { h with
    blk := hI.blk
    own1 := hk.own h.own1 ?_
    own2 := hI.own
    own3 := hk.own h.own3 ?_
    good2 := Img.does_good h.good2 ho
    b2 := by rw [Img.does_bytes h.good2 ho, h.b2]
    p2 := Img.does_pages h.p2 ho
    each := fun j o' hj => ?_
    Fg := .inl h.Fg
    F1 := fun k hk' => ⟨.inl (h.F1 k hk').1, (h.F1 k hk').2⟩
    F2 := fun k hk' => ?_
    F3 := fun k hk' => ⟨.inl (h.F3 k hk').1, (h.F3 k hk').2⟩
    FX := fun k hk' => .inl (h.FX k hk')
    apart := fun k hk1 hk' => ?_
    Flt := grow_lt h.Flt hk.size }, hkF⟩
  · rintro k h2 (rfl | h1)
    · exact h.ne1 h2
    · exact h.apart k h2 h1
  · rintro k h3 (rfl | h1)
    · exact h.ne3 h3
    · exact own_ne_own h.own2 h.own3 (by decide) h1 h3
  · obtain ⟨h1, fv, h2, h3⟩ := h.each j o' hj
    exact ⟨h1, fv, h2, h3.kept hk (by rintro k hx (rfl | h1); exact h.gX hx; exact (h.F2 k h1).2 hx)⟩
  · rcases hn k hk' with h1 | h1
    · exact ⟨.inl (h.F2 k h1).1, (h.F2 k h1).2⟩
    · exact ⟨.inr ⟨h1, (hI.own.lt k hk').2⟩, fun hx => by have := h.Flt k (h.FX k hx); omega⟩
  · rcases hn k hk' with h1 | h1
    · exact h.apart k hk1 h1
    · have := (h.own1.lt k hk1).2; omega
end

theorem dfuse_any {w : World} {F : Nat → Prop} {g : Nat} {S : DevS} (h : Dev w F g S) (n : Int) :
    Calls Try.prog 16 #[.pointer (some ⟨g, 0, none⟩), .int .i64 n] w fun e w' => e = .returned (.tuple #[]) ∧ Dev w' F g { S with fuse := n } ∧ Kept F w w' := by
  have hv := dvalid_yes h
  obtain ⟨m1, m2, A1, n1, c1, A2, n2, c2, A3, n3, c3, X, pc, h⟩ := h
  obtain ⟨_, _, _, _, _, _, _, _, _, _, k10, _⟩ := dev_cells h.blk
  have f10 := h.blk.frozen 10
  go_enter Try.func16, Try.ntmps16
  go_wp2_with (go_at_call 36; refine hv.mono ?_; rintro e w' ⟨rfl, rfl⟩)
  go_end0
  exact ⟨rfl, ⟨m1, m2, A1, n1, c1, A2, n2, c2, A3, n3, c3, X, pc, h.store 10 _ rfl rfl rfl rfl rfl rfl (Nat.le_refl _)⟩, (Kept.refl _ _).setCell (.inl h.Fg) _⟩

/-- What one more operation leaves of a fuse. -/
def burn (n : Int) : Int := if 0 < n then n - 1 else n
theorem dstart_no {w : World} {F : Nat → Prop} {g : Nat} {S : DevS} (h : Dev w F g S) (hf : S.fuse = 0) :
    Calls Try.prog 42 #[.pointer (some ⟨g, 0, none⟩)] w fun e w' => e = .returned (.bool false) ∧ w = w' := by
  obtain ⟨m1, m2, A1, n1, c1, A2, n2, c2, A3, n3, c3, X, pc, h⟩ := h
  obtain ⟨_, _, _, _, _, _, _, _, _, _, k10, _⟩ := dev_cells h.blk
  rw [hf] at k10
  have HF := Lib.hid hf
  clear hf
  go_enter Try.func42, Try.ntmps42
  go_wp2
  go_ret
  exact ⟨rfl, rfl⟩
theorem dstart_yes {w : World} {F : Nat → Prop} {g : Nat} {S : DevS} {m1 m2 : Img} {A1 : Option Addr} {n1 c1 : Nat} {A2 : Option Addr} {n2 c2 : Nat} {A3 : Option Addr} {n3 c3 : Nat} {X : Nat → Prop} {pc : List Value}
    (h : DevAt w F g S m1 m2 A1 n1 c1 A2 n2 c2 A3 n3 c3 X pc) (hf : S.fuse ≠ 0) (hlo : -9223372036854775808 ≤ S.fuse) (hhi : S.fuse ≤ 9223372036854775807) (ho : S.ops ≤ 4294967296) :
    Calls Try.prog 42 #[.pointer (some ⟨g, 0, none⟩)] w fun e w' => e = .returned (.bool true) ∧ DevAt w' F g { S with fuse := burn S.fuse, ops := S.ops + 1 } m1 m2 A1 n1 c1 A2 n2 c2 A3 n3 c3 X pc ∧ Kept F w w' := by
  obtain ⟨_, _, _, _, _, _, _, _, _, _, k10, k11⟩ := dev_cells h.blk
  have f10 := h.blk.frozen 10
  have f11 := h.blk.frozen 11
  obtain ⟨z, hz⟩ : ∃ z, z = S.fuse := ⟨_, rfl⟩
  rw [← hz] at k10 hf hlo hhi ⊢
  have HZ := Lib.hid hz
  have hb : (z == 0) = false := by simpa using hf
  clear hz hf
  by_cases hp : 0 < z
  · have hb' := Lib.hid (show burn z = z - 1 by unfold burn; rw [if_pos hp])
    go_enter Try.func42, Try.ntmps42
    go_wp2
    go_ret
    refine ⟨rfl, ?_, ((Kept.refl _ _).setCell (.inl h.Fg) _).setCell (.inl h.Fg) _⟩
    rw [hb'.out]
    exact (h.store (S' := { S with fuse := z - 1 }) 10 _ rfl rfl rfl rfl rfl rfl (Nat.le_refl _)).store 11 _ rfl rfl rfl rfl rfl rfl (Nat.le_succ _)
  · have hb' := Lib.hid (show burn z = z by unfold burn; rw [if_neg hp])
    go_enter Try.func42, Try.ntmps42
    go_wp2
    go_ret
    refine ⟨rfl, ?_, (Kept.refl _ _).setCell (.inl h.Fg) _⟩
    rw [hb'.out, HZ.out]
    exact h.store 11 _ rfl rfl rfl rfl rfl rfl (Nat.le_succ _)

theorem infoFn : (Try.prog.info? 74).map (fun i => (i.zero, i.size, i.bytes)) = some (some .nilFunc, 1, 8) := by kernel_rfl
theorem dchange_no {w : World} {F : Nat → Prop} {g : Nat} {S : DevS} (h : Dev w F g S) (hf : S.fuse = 0) (fv : Value) :
    Calls Try.prog 37 #[.pointer (some ⟨g, 0, none⟩), fv] w fun e w' => e = .returned (.int .i64 8) ∧ w = w' := by
  have hs := dstart_no h hf
  go_enter Try.func37, Try.ntmps37
  go_wp2_with (go_at_call 42; refine hs.mono ?_; rintro e w' ⟨rfl, rfl⟩)
  go_ret
  exact ⟨rfl, rfl⟩
theorem kept_of_old {F : Nat → Prop} {w w' : World} {P : Nat → Prop} (h : ∀ k, P k → k < w.heap.size ∧ ¬ F k) (hs : w.heap.size ≤ w'.heap.size) : ∀ k, P k → k < w'.heap.size ∧ ¬ Grow F w w' k := by
  intro k hk
  obtain ⟨h1, h2⟩ := h k hk
  exact ⟨by omega, by rintro (h3 | ⟨h3, _⟩); exact h2 h3; omega⟩

theorem grow_sub {F : Nat → Prop} {w w1 w2 : World} (h : w.heap.size ≤ w1.heap.size) : ∀ k, Grow F w1 w2 k → F k ∨ w.heap.size ≤ k := by
  rintro k (h1 | ⟨h1, _⟩)
  · exact .inl h1
  · exact .inr (by omega)
theorem grow_out {F Y : Nat → Prop} {w w1 w2 w3 : World} (h1 : w.heap.size ≤ w1.heap.size) (h2 : w1.heap.size ≤ w2.heap.size) (h3 : w2.heap.size ≤ w3.heap.size) : ∀ k, (Grow (Grow F w1 w2) w2 w3 k ∨ Y k) → (Grow F w w3 k ∨ Y k) := by
  rintro k (((h | ⟨ha, hb⟩) | ⟨ha, hb⟩) | h)
  · exact .inl (.inl h)
  · exact .inl (.inr ⟨by omega, by omega⟩)
  · exact .inl (.inr ⟨by omega, by omega⟩)
  · exact .inr h
theorem grow_lt2 {F Y : Nat → Prop} {w w' : World} (h : ∀ k, F k → k < w.heap.size) (hY : ∀ k, Y k → k < w.heap.size) (hs : w.heap.size ≤ w'.heap.size) : ∀ k, (Grow F w w' k ∨ Y k) → k < w'.heap.size := by
  rintro k (h1 | h1)
  · exact grow_lt h hs k h1
  · exact Nat.lt_of_lt_of_le (hY k h1) hs

set_option maxHeartbeats 1600000 in
theorem dchange_yes {w : World} {F : Nat → Prop} {g : Nat} {S : DevS} (h : Dev w F g S) (hf : S.fuse ≠ 0) (hlo : -9223372036854775808 ≤ S.fuse) (hhi : S.fuse ≤ 9223372036854775807) (hops : S.ops ≤ 4294967296)
    {o : POp} (ho : o.ok S.size S.cap) {Y : Nat → Prop} {fv : Value} (hop : IsOp w Y fv o) (hY : ∀ k, Y k → k < w.heap.size ∧ ¬ F k) :
    Calls Try.prog 37 #[.pointer (some ⟨g, 0, none⟩), fv] w fun e w' => e = .returned (.int .i64 0) ∧
      Dev w' (fun k => Grow F w w' k ∨ Y k) g { S with img := o.on S.size S.img, pend := S.pend ++ [o], fuse := burn S.fuse, ops := S.ops + 1 } ∧ Kept F w w' := by
  obtain ⟨i0, hi0, hz0, hz1, hz2⟩ := info_parts infoFn
  obtain ⟨m1, m2, A1, n1, c1, A2, n2, c2, A3, n3, c3, X, pc, h⟩ := h
  have hs := dstart_yes h hf hlo hhi hops
  have H0 := Lib.hid hi0
  have H1 := Lib.hid hz0
  have H2 := Lib.hid hz1
  have H3 := Lib.hid hz2
  clear hi0 hz0 hz1 hz2 hf
  cases o with
  | wr k b =>
    obtain ⟨x, y, rfl, hx, hy, hYx, hYy⟩ := hop
    have hop : IsOp w Y (.func (.func 38) #[] #[.pointer (some ⟨x, 0, none⟩), .pointer (some ⟨y, 0, none⟩)]) (.wr k b) := ⟨x, y, rfl, hx, hy, hYx, hYy⟩
    go_enter Try.func37, Try.ntmps37
    go_wp2_with fail
    refine hs.mono ?_
    rintro e w1 ⟨rfl, h1, hk1⟩
    have hop1 := hop.kept hk1 fun k hy => (hY k hy).2
    obtain ⟨x', y', e', hx1, hy1, _, _⟩ := hop1
    injection e' with _ _ e'
    have ex : x = x' ∧ y = y' := by simpa using e'
    obtain ⟨rfl, rfl⟩ := ex
    clear e'
    go_wp2_with fail
    refine (closw_any h1.img1 (by decide) h1.good1 h1.hi k b (by have := ho.1; have := h.capHi; omega) (by have := h1.len1; have := h1.p1; have := h1.capHi; omega) hx1 hy1).mono ?_
    rintro e w2 ⟨rfl, hd⟩
    obtain ⟨A, n, c, h2, hk2⟩ := h1.done1 (o := .wr k b) ho hd
    have hop2 := (hop.kept hk1 fun k hy => (hY k hy).2).kept hk2 fun k hy => (hY k hy).2
    have hY2 := kept_of_old (F := F) (w := w1) (w' := w2) (P := Y) (fun k hy => ⟨Nat.lt_of_lt_of_le (hY k hy).1 hk1.size, (hY k hy).2⟩) hk2.size
    obtain ⟨_, _, _, _, _, _, _, _, _, k9, _⟩ := dev_cells h2.blk
    have hn3 : n3 ≤ 4294967296 := by have := h.np; have := h.few; omega
    go_wp2_with (at_builtin
                 refine wpList_append_lies _ rfl _ _ _ rfl 0 74 i0 _ 1 8 Try.underlying68 H0.out H1.out H2.out H3.out rfl (by omega) (.slice A3 n3 c3) n3 pc rfl (h2.own3.alloc _)
                   ⟨w2.heap.size, 0, none⟩ 1 1 [.func (.func 38) #[] #[.pointer (some ⟨x, 0, none⟩), .pointer (some ⟨y, 0, none⟩)]] rfl rfl (World.news_of_block (cs := #[.func (.func 38) #[] #[.pointer (some ⟨x, 0, none⟩), .pointer (some ⟨y, 0, none⟩)]]) (t := 74) (fr := (0, 0)) (heap_alloc_new w2 _)) (by simp [Value.oneCell'])
                   (by omega) (by unfold maxLen; omega) (by omega) (by simp) (w2.heap.size + 1) (by simp) ?_
                 intro gg cap w3 hown3 hg3 hat hlt3
                 have hb3 := (h2.blk.alloc (.cells #[.func (.func 38) #[] #[.pointer (some ⟨x, 0, none⟩), .pointer (some ⟨y, 0, none⟩)]] 74)).grown hg3 (Ne.symm h2.ne3)
                 have q9 : w3.cell? ⟨g, 9, none⟩ = some (.slice A3 n3 c3) := hb3.cell 9
                 have f9 := hb3.frozen 9)
    go_ret
    obtain ⟨hp, hk3⟩ := h2.push (o := .wr k b) ho hop2 hY2 (Nat.succ_le_succ h.few) hg3 hown3 hat
    have hkk := (hk1.trans hk2).then hk3 (grow_sub hk1.size)
    refine ⟨rfl, ?_, hkk⟩
    exact Dev.wide ⟨_, _, _, _, _, _, _, _, _, _, _, _, _, hp⟩ (grow_out hk1.size hk2.size hk3.size) (grow_lt2 h.Flt (fun k hy => (hY k hy).1) hkk.size)
  | tr k =>
    obtain ⟨x, rfl, hx, hYx⟩ := hop
    have hop : IsOp w Y (.func (.func 40) #[] #[.pointer (some ⟨x, 0, none⟩)]) (.tr k) := ⟨x, rfl, hx, hYx⟩
    go_enter Try.func37, Try.ntmps37
    go_wp2_with fail
    refine hs.mono ?_
    rintro e w1 ⟨rfl, h1, hk1⟩
    have hop1 := hop.kept hk1 fun k hy => (hY k hy).2
    obtain ⟨x', e', hx1, _⟩ := hop1
    injection e' with _ _ e'
    have ex : x = x' := by simpa using e'
    obtain rfl := ex
    clear e'
    go_wp2_with fail
    refine (clost_any h1.img1 (by decide) k (by have : k ≤ S.cap := ho; have := h.capHi; omega) (by have := h1.len1; have := h1.p1; have := h1.capHi; omega) hx1).mono ?_
    rintro e w2 ⟨rfl, hd⟩
    obtain ⟨A, n, c, h2, hk2⟩ := h1.done1 (o := .tr k) ho hd
    have hop2 := (hop.kept hk1 fun k hy => (hY k hy).2).kept hk2 fun k hy => (hY k hy).2
    have hY2 := kept_of_old (F := F) (w := w1) (w' := w2) (P := Y) (fun k hy => ⟨Nat.lt_of_lt_of_le (hY k hy).1 hk1.size, (hY k hy).2⟩) hk2.size
    obtain ⟨_, _, _, _, _, _, _, _, _, k9, _⟩ := dev_cells h2.blk
    have hn3 : n3 ≤ 4294967296 := by have := h.np; have := h.few; omega
    go_wp2_with (at_builtin
                 refine wpList_append_lies _ rfl _ _ _ rfl 0 74 i0 _ 1 8 Try.underlying68 H0.out H1.out H2.out H3.out rfl (by omega) (.slice A3 n3 c3) n3 pc rfl (h2.own3.alloc _)
                   ⟨w2.heap.size, 0, none⟩ 1 1 [.func (.func 40) #[] #[.pointer (some ⟨x, 0, none⟩)]] rfl rfl (World.news_of_block (cs := #[.func (.func 40) #[] #[.pointer (some ⟨x, 0, none⟩)]]) (t := 74) (fr := (0, 0)) (heap_alloc_new w2 _)) (by simp [Value.oneCell'])
                   (by omega) (by unfold maxLen; omega) (by omega) (by simp) (w2.heap.size + 1) (by simp) ?_
                 intro gg cap w3 hown3 hg3 hat hlt3
                 have hb3 := (h2.blk.alloc (.cells #[.func (.func 40) #[] #[.pointer (some ⟨x, 0, none⟩)]] 74)).grown hg3 (Ne.symm h2.ne3)
                 have q9 : w3.cell? ⟨g, 9, none⟩ = some (.slice A3 n3 c3) := hb3.cell 9
                 have f9 := hb3.frozen 9)
    go_ret
    obtain ⟨hp, hk3⟩ := h2.push (o := .tr k) ho hop2 hY2 (Nat.succ_le_succ h.few) hg3 hown3 hat
    have hkk := (hk1.trans hk2).then hk3 (grow_sub hk1.size)
    refine ⟨rfl, ?_, hkk⟩
    exact Dev.wide ⟨_, _, _, _, _, _, _, _, _, _, _, _, _, hp⟩ (grow_out hk1.size hk2.size hk3.size) (grow_lt2 h.Flt (fun k hy => (hY k hy).1) hkk.size)
end Go.Proofs.Ytmkejkmgpigmhaa
