/-
  An allocation in a world of other things that stay as they are (Held), and its calls: each with its conditions in its own statement. lives of layer 14.
-/
import Derived.Test.YtofbglgdmabafaaJ36
namespace Go.Proofs.Ytofbglgdmabafaa
open Go.RowKit
open Go.Lib hiding intOf
open Go.Maps (Keyed IsMap Tidy)
set_option linter.unusedVariables false
set_option linter.unusedSimpArgs false
attribute [local go_sem ↓] Go.wp_at_zero Go.wp_at_succ

/-- What lies in G alone, and says nothing of other blocks. -/
def Stable (R : World → (Nat → Prop) → Prop) : Prop := ∀ w w' G F, R w G → Kept F w w' → (∀ k, F k → ¬ G k) → (∀ k, G k → k < w.heap.size) → R w' G
theorem stable_true : Stable fun _ _ => True := fun _ _ _ _ _ _ _ _ => trivial
structure HeldAt (w0 w : World) (F G : Nat → Prop) (g : Nat) (S : AlS) (R : World → (Nat → Prop) → Prop) : Prop where
  bel : Below w0.heap.size w0 w
  al : Al w F g S
  fb : ∀ k, F k → w0.heap.size ≤ k
  rest : R w G
  gb : ∀ k, G k → w0.heap.size ≤ k
  gl : ∀ k, G k → k < w.heap.size
  apart : ∀ k, F k → ¬ G k
def Held (w0 w : World) (g : Nat) (S : AlS) (R : World → (Nat → Prop) → Prop) : Prop := ∃ F G, HeldAt w0 w F G g S R
section
variable {w0 w w' : World} {g : Nat} {S T : AlS} {R Q : World → (Nat → Prop) → Prop}
theorem Held.bel (h : Held w0 w g S R) : Below w0.heap.size w0 w := by obtain ⟨F, G, h⟩ := h; exact h.bel
theorem Held.size (h : Held w0 w g S R) : w0.heap.size ≤ w.heap.size := h.bel.size
theorem Held.ok (h : Held w0 w g S R) : S.ok := by obtain ⟨F, G, h⟩ := h; exact h.al.ok
theorem Held.new (hR : Stable R) (h : Held w0 w g S R) (hb : Below w.heap.size w w') : Held w0 w' g S R := by
  obtain ⟨F, G, h⟩ := h
  exact ⟨F, G, h.bel.trans (hb.mono h.bel.size), h.al.new hb, h.fb, hR w w' G (fun k => w.heap.size ≤ k) h.rest (Kept.of_below hb fun k h1 _ => h1) (fun k hf hg => by have := h.gl k hg; omega) h.gl, h.gb, fun k hk => Nat.lt_of_lt_of_le (h.gl k hk) hb.size, h.apart⟩
theorem Held.drew (hR : Stable R) (h : Held w0 w g S R) : Held w0 w.drew g S R := h.new hR ((Below.refl _ _).drew)
theorem Held.alloc (hR : Stable R) (h : Held w0 w g S R) (o : Obj) : Held w0 (w.alloc o) g S R := h.new hR ((Below.refl _ _).alloc (Nat.le_refl _) _)
/-- A call has changed the allocation, and made new things. -/
theorem HeldAt.step {F G : Nat → Prop} (hR : Stable R) (h : HeldAt w0 w F G g S R) (hk : Kept F w w') (ha : Al w' (GrowF F w w') g T) : HeldAt w0 w' (GrowF F w w') G g T R :=
  ⟨h.bel.trans (hk.below h.fb h.bel.size), ha, fun k hf => by
    rcases hf with hf | ⟨hf, _⟩
    · exact h.fb k hf
    · exact Nat.le_trans h.bel.size hf, hR w w' G F h.rest hk h.apart h.gl, h.gb, fun k hk' => Nat.lt_of_lt_of_le (h.gl k hk') hk.size, fun k hf hg => by
    rcases hf with hf | ⟨hf, _⟩
    · exact h.apart k hf hg
    · have := h.gl k hg
      omega⟩
/-- The rest has changed, and new things have been made. -/
theorem Held.other (h : Held w0 w g S R) (hs : ∀ G : Nat → Prop, R w G → (∀ k, G k → k < w.heap.size) → (∀ k, G k → w0.heap.size ≤ k) → Kept G w w' ∧ ∃ G' : Nat → Prop, Q w' G' ∧ ∀ k, G' k → G k ∨ (w.heap.size ≤ k ∧ k < w'.heap.size)) : Held w0 w' g S Q := by
  obtain ⟨F, G, h⟩ := h
  obtain ⟨hk, G', hQ, hG⟩ := hs G h.rest h.gl h.gb
  refine ⟨F, G', h.bel.trans (hk.below h.gb h.bel.size), h.al.kept hk fun k hf hg => h.apart k hf hg, h.fb, hQ, fun k hk' => ?_, fun k hk' => ?_, fun k hf hg => ?_⟩
  · rcases hG k hk' with h1 | ⟨h1, _⟩
    · exact h.gb k h1
    · exact Nat.le_trans h.bel.size h1
  · rcases hG k hk' with h1 | ⟨_, h1⟩
    · exact Nat.lt_of_lt_of_le (h.gl k h1) hk.size
    · exact h1
  · rcases hG k hg with h1 | ⟨h1, _⟩
    · exact h.apart k hf h1
    · have := h.al.lt k hf
      omega
theorem htake (hR : Stable R) (h : Held w0 w g S R) {n z : Nat} (e : S.takes = (n, z, T)) :
    Calls Try.prog 12 #[.pointer (some ⟨g, 0, none⟩)] w fun e w' => e = .returned (.tuple #[.int .u32 n, .int .i64 z]) ∧ Held w0 w' g T R := by
  obtain ⟨F, G, h⟩ := h
  refine (atake_any h.al).mono ?_
  rintro e' w' ⟨rfl, ha, hk⟩
  rw [e] at ha
  have ha2 := ha.wide (G := GrowF F w w') (fun k hk => .inl hk) fun k hk2 => by
    rcases hk2 with hk2 | ⟨_, hk2⟩
    · exact ha.lt k hk2
    · exact hk2
  exact ⟨by rw [e], _, G, h.step hR hk ha2⟩
theorem hgive (hR : Stable R) (h : Held w0 w g S R) {n z : Nat} (e : S.gives n = (z, T)) :
    Calls Try.prog 13 #[.pointer (some ⟨g, 0, none⟩), .int .u32 n] w fun e w' => e = .returned (.int .i64 z) ∧ Held w0 w' g T R := by
  obtain ⟨F, G, h⟩ := h
  refine (agive_any h.al n).mono ?_
  rintro e' w' ⟨rfl, ha, hk⟩
  rw [e] at ha
  exact ⟨by rw [e], _, G, h.step hR hk ha⟩
theorem hleft (hR : Stable R) (h : Held w0 w g S R) :
    Calls Try.prog 16 #[.pointer (some ⟨g, 0, none⟩)] w fun e w' => e = .returned (.int .i64 S.left) ∧ Held w0 w' g S R ∧ Below w.heap.size w w' := by
  obtain ⟨F, G, h'⟩ := id h
  refine (aleft_any h'.al).mono ?_
  rintro e' w' ⟨rfl, hb⟩
  exact ⟨rfl, h.new hR hb, hb⟩
/-- A new allocation, beside what is there. -/
theorem Held.made {g : Nat} {S : AlS} (hb0 : Below w0.heap.size w0 w) (hb : Below w.heap.size w w') (ha : Al w' (fun k => w.heap.size ≤ k ∧ k < w'.heap.size) g S) : Held w0 w' g S (fun _ _ => True) :=
  ⟨_, fun _ => False, hb0.trans (hb.mono hb0.size), ha, fun k hk => Nat.le_trans hb0.size hk.1, trivial, fun k h => h.elim, fun k h => h.elim, fun k _ h => h⟩
end
theorem reads_lit (w : World) (l : List Nat) (n : Nat) (hn : l.length = n) : Reads (w.alloc (.cells (ucells l).toArray 27)) (w.alloc (.cells (ucells l).toArray 27)).heap.size 1 (some ⟨w.heap.size, 0, none⟩) n (ucells l) := by
  have := reads_own (k := 1) (n := n) (Blk.new w 27 (ucells l).toArray) (by simp [ucells_length, hn])
  simpa using this
theorem lives14_any (w : World) : Calls Try.prog 10 #[] w fun e w' => e = .returned (.bool true) ∧ Below w.heap.size w w' := by
  have hnew := fun c => anew_any c 6 7 (reads_lit w [3, 5] 2 rfl) (by decide)
  have hb0 := Lib.hid (show Below w.heap.size w (w.alloc (.cells (ucells [3, 5]).toArray 27)) from (Below.refl _ _).alloc (Nat.le_refl _) _)
  have HN := Lib.hid hnew
  clear hnew
  go_enter Try.func10, Try.ntmps10
  go_wp2_with fail
  refine (HN.out _).mono ?_
  rintro e w1 ⟨hb1, ⟨_, g, rfl, ha⟩ | ⟨hf, _⟩⟩
  · have H0 := Lib.hid (Held.made hb0.out hb1 ha)
    clear ha hb1
    go_wp2_with fail
    refine (htake stable_true H0.out (T := ⟨[5], [3], [], 6, 7⟩) (n := 3) (z := 0) rfl).mono ?_
    rintro e w2 ⟨rfl, h⟩
    have H1 := Lib.hid h
    clear h
    go_wp2_with fail
    refine (htake stable_true H1.out (T := ⟨[], [3, 5], [], 6, 7⟩) (n := 5) (z := 0) rfl).mono ?_
    rintro e w3 ⟨rfl, h⟩
    have H2 := Lib.hid h
    clear h
    go_wp2_with fail
    refine (htake stable_true H2.out (T := ⟨[], [3, 5, 6], [], 7, 7⟩) (n := 6) (z := 0) rfl).mono ?_
    rintro e w4 ⟨rfl, h⟩
    have H3 := Lib.hid h
    clear h
    go_wp2_with fail
    refine (htake stable_true H3.out (T := ⟨[], [3, 5, 6], [], 7, 7⟩) (n := 0) (z := 9) rfl).mono ?_
    rintro e w5 ⟨rfl, h⟩
    have H4 := Lib.hid h
    clear h
    go_wp2_with fail
    go_ret
    exact ⟨rfl, H4.out.bel⟩
  · exact absurd hf (by decide)
end Go.Proofs.Ytofbglgdmabafaa

