/-
  A range over a function whose iterator keeps a state of its own in cells: the blocks that the loop's body owns are named (U); the iterator leaves these alone, a round turns these alone. Plain laws; no statement is proved here.
-/
import Derived.RangeFuncNested
import Derived.RangeFuncBound
import Derived.Test.YtgnpldlgdapehaaJ2
set_option linter.unusedVariables false
set_option linter.unusedSimpArgs false
namespace Go.Proofs.Ytgnpldlgdapehaa
open Go.RowKit

structure KeepsU (U : Nat → Prop) (W W' : World) : Prop where
 os : W'.os = W.os
 tape : W'.tape = W.tape
 output : W'.output = W.output
 size : W.heap.size ≤ W'.heap.size
 block : ∀ k, k < W.heap.size → U k → W'.heap[k]? = W.heap[k]?
theorem KeepsU.mono {U V : Nat → Prop} {A B : World} (h : KeepsU U A B) (hv : ∀ k, V k → U k) : KeepsU V A B := ⟨h.os, h.tape, h.output, h.size, fun i hi hu => h.block i hi (hv i hu)⟩
theorem KeepsU.of_grown {U : Nat → Prop} {A B : World} {row : Option Nat} (h : A.grownBy B row) (hr : ∀ k, row = some k → ¬ U k) : KeepsU U A B := ⟨h.os, h.tape, h.output, h.size, fun i hi hu => h.block i hi fun e => hr i e.symm hu⟩
theorem KeepsU.of_below {U : Nat → Prop} {A B : World} (h : Below A.heap.size A B) : KeepsU U A B := ⟨h.os, h.tape, h.output, h.size, fun i hi _ => h.block i hi⟩
theorem KeepsU.alloc (U : Nat → Prop) (A : World) (o : Obj) : KeepsU U A (A.alloc o) := KeepsU.of_below ((Below.refl _ _).alloc (Nat.le_refl _) o)
def StabU {β : Type} (J : β → (Nat → Prop) → World → Prop) : Prop := ∀ s U W W', J s U W → KeepsU U W W' → J s U W'
def LtU {β : Type} (J : β → (Nat → Prop) → World → Prop) : Prop := ∀ s U W, J s U W → ∀ k, U k → k < W.heap.size
def RoundU {β : Type} (J : β → (Nat → Prop) → World → Prop) (xs : β) (U : Nat → Prop) (W W' : World) : Prop := ∃ U' : Nat → Prop, (∀ k, U' k → U k ∨ W.heap.size ≤ k) ∧ Kept U W W' ∧ J xs U' W'
def AfterU {β : Type} (J Jx : β → (Nat → Prop) → World → Prop) (U : Nat → Prop) (W : World) (xs : β) (e : Ending) (W' : World) : Prop :=
 (e = .returned (.bool true) ∧ RoundU J xs U W W') ∨ (e = .returned (.bool false) ∧ RoundU Jx xs U W W')
def SeqU {α : Type} (P : Program) (g : Nat) (lb : Array Value) (encs : α → Array Value) (XS : List α) (M : Nat → Prop) (w : World) : Prop :=
 ∀ (l n : Nat) (J Jx : List α → (Nat → Prop) → World → Prop) (U0 : Nat → Prop) (W : World), Below w.heap.size w W → StabU J → StabU Jx → LtU J → LtU Jx → (∀ k, M k → ¬ U0 k) →
  (∀ m pre x U W1, J pre U W1 → pre ++ [x] <+: XS → YieldAt Fence.wide m P l (encs x) W1 (AfterU J Jx U W1 (pre ++ [x]))) →
  J [] U0 W →
  CallsIn Fence.wide n P g (#[.func (.yield l) #[] #[]] ++ lb) W fun e W' => (∃ v, e = .returned v) ∧ ∃ U', (J XS U' W' ∨ ∃ pre, pre <+: XS ∧ Jx pre U' W')
def postU {β : Type} (I : β → (Nat → Prop) → World → Prop) (Ix : Code → β → (Nat → Prop) → World → Prop) (xs : β) (U : Nat → Prop) (W : World) : Exit → Act → World → Prop
 | .normal, _, W' => RoundU I xs U W W'
 | .ret, _, W' => RoundU (Ix .ret) xs U W W'
 | .exit id, _, W' => RoundU (Ix (.exit id)) xs U W W'
 | .goto t, _, W' => RoundU (Ix (.goto t)) xs U W W'
 | .panic _, _, _ => False
 | .outgrown, _, _ => False
theorem keepsU_put {U : Nat → Prop} (W : World) {l : Nat} (o : Obj) (hl : ¬ U l) : KeepsU U W (W.putObj l o) := KeepsU.of_grown (grownBy_putObj' W l o) (fun k e => by cases e; exact hl)
theorem kept_put {U : Nat → Prop} (W : World) {l : Nat} (o : Obj) (hl : U l) : Kept U W (W.putObj l o) := Kept.of_grown (grownBy_putObj' W l o) (fun k e => by cases e; exact hl)
theorem wpIn_rangeFunc_U {α : Type} {P : Program} {g : Operand} {ps : Array Tmp} {assign body : Code} {Q : Exit → Act → World → Prop} {a : Act} {w : World} {n : Nat}
  {gf : Nat} {lb : Array Value} (hg : a.eval g = .func (.func gf) #[] lb) (eg : ∀ args w, (callFunc gf args).run P w = .ok (.enter gf args) w)
  {encs : α → Array Value} {XS : List α} {M : Nat → Prop} {w0 : World} (hseq : SeqU P gf lb encs XS M w0) (hb0 : Below w0.heap.size w0 w) (hM : ∀ k, M k → k < w.heap.size) (hps : ∀ x, (encs x).size = ps.size)
  (I : List α → (Nat → Prop) → World → Prop) (Ix : Code → List α → (Nat → Prop) → World → Prop) (A : List α → α → Act → (Nat → Prop) → World → Prop)
  (hI : StabU I) (hIx : ∀ c, StabU (Ix c)) (hA : ∀ pre x a', StabU (fun (_ : Unit) => A pre x a')) (lI : LtU I) (lIx : ∀ c, LtU (Ix c))
  (U0 : Nat → Prop) (hMU : ∀ k, M k → ¬ U0 k) (h0 : I [] U0 w)
  (hassign : ∀ (m l : Nat) (pre : List α) (x : α) (U : Nat → Prop) (W : World) (K : Act → World → Prop), I pre U W → pre ++ [x] <+: XS →
   (∀ (a' : Act) (U' : Nat → Prop) (W' : World), (∀ k, U' k → U k ∨ W.heap.size ≤ k) → Kept U W W' → A pre x a' U' W' → K a' W') →
   assign.wpIn (Fence.wide.inRound l) m P (Exit.then K (fun _ _ _ => False)) { tmps := (ps.zip (encs x)).foldl (fun t (p, v) => t.setIfInBounds p v) a.tmps, defers := [] } W)
  (hbody : ∀ (m l : Nat) (pre : List α) (x : α) (a' : Act) (U : Nat → Prop) (W : World), A pre x a' U W → pre ++ [x] <+: XS → body.wpIn (Fence.wide.inRound l) m P (postU I Ix (pre ++ [x]) U W) a' W)
  (hdone : ∀ (D : Nat) (U : Nat → Prop) (W : World), w.heap.size ≤ D → ¬ U D → I XS U W → W.heap[D]? = some (.deferred (some [])) → Q .normal { a with defers := { target := .collected D, args := #[] } :: a.defers } W)
  (hstop : ∀ (D : Nat) (c : Code) (pre : List α) (U : Nat → Prop) (W : World), w.heap.size ≤ D → ¬ U D → pre <+: XS → Ix c pre U W → W.heap[D]? = some (.deferred (some [])) → c.wpIn Fence.wide n P Q { a with defers := { target := .collected D, args := #[] } :: a.defers } W) :
  (Code.rangeFunc g ps assign body).wpIn Fence.wide n P Q a w := by
 refine wpIn_rangeFunc ?_
 intro fn hfn
 obtain ⟨rec, hrec⟩ : ∃ rec : LoopState → Option Code → Loop, rec = fun st pe => { state := st, pending := pe, fn, tmps := a.tmps, params := ps, assign, body, defers := w.heap.size } := ⟨_, rfl⟩
 obtain ⟨W1, hW1⟩ : ∃ W1, (w.alloc (.deferred (some []))).alloc (.loop (rec .ready none)) = W1 := ⟨_, rfl⟩
 have hL1 : W1.heap[w.heap.size + 1]? = some (.loop (rec .ready none)) := by
  rw [← hW1]; have := World.alloc_heap_new (w.alloc (.deferred (some []))) (.loop (rec .ready none)); rwa [World.size_alloc] at this
 have hK1 : W1.heap[w.heap.size]? = some (.deferred (some [])) := by
  rw [← hW1]; exact (Below.heap_alloc _ _ _ (by simp)).trans (World.alloc_heap_new w _)
 have hI1 : I [] U0 W1 := by rw [← hW1]; exact hI _ _ _ _ (hI _ _ _ _ h0 (KeepsU.alloc _ _ _)) (KeepsU.alloc _ _ _)
 have hb1 : Below w0.heap.size w0 W1 := by
  rw [← hW1]; exact hb0.trans ((((Below.refl _ w).alloc (Nat.le_refl _) _).alloc (by simp) _).mono hb0.size)
 obtain ⟨D, hD⟩ : ∃ D, D = w.heap.size := ⟨_, rfl⟩
 refine ⟨w.heap.size + 1, [{ target := .collected w.heap.size, args := #[] }], W1, { target := .fn (.func gf) lb, args := #[.func (.yield (w.heap.size + 1)) #[] #[]] }, W1, gf,
  #[.func (.yield (w.heap.size + 1)) #[] #[]] ++ lb, W1, ?_, ?_, ?_, ?_, fun h => by simp [Fence.wide] at h, ?_⟩
 ·rw [← hW1, hrec]; exact run_enterLoop_outer _ _ _ _ _
 ·simp only [resolve, hg]
  simp [go_sem]
 ·intro f' _; trivial
 ·simp [invoke, go_sem, eg]
 ·rw [← hD] at hL1 hK1 ⊢
  have hU0D : ∀ k, U0 k → k < D := fun k hk => hD ▸ lI _ _ _ h0 k hk
  have hext : ∀ {J : List α → (Nat → Prop) → World → Prop} (st : LoopState) (pe : Option Code → Prop), StabU J → StabU (fun (pre : List α) (U : Nat → Prop) (W : World) => ∃ (V : Nat → Prop) (c : Option Code), pe c ∧ (∀ k, U k ↔ V k ∨ k = D ∨ k = D + 1) ∧ ¬ V D ∧ ¬ V (D + 1) ∧ J pre V W ∧ W.heap[D + 1]? = some (.loop (rec st c)) ∧ W.heap[D]? = some (.deferred (some []))) :=
   fun st pe hs pre U W W' h hk => by
    obtain ⟨V, c, hc, hU, n1, n2, hj, hl, hd⟩ := h
    exact ⟨V, c, hc, hU, n1, n2, hs _ _ _ _ hj (hk.mono fun k hv => (hU k).2 (.inl hv)), (hk.block _ (Array.getElem?_eq_some_iff.1 hl).1 ((hU _).2 (.inr (.inr rfl)))).trans hl, (hk.block _ (Array.getElem?_eq_some_iff.1 hd).1 ((hU _).2 (.inr (.inl rfl)))).trans hd⟩
  have hlt : ∀ {J : List α → (Nat → Prop) → World → Prop} (st : LoopState) (pe : Option Code → Prop), LtU J → LtU (fun (pre : List α) (U : Nat → Prop) (W : World) => ∃ (V : Nat → Prop) (c : Option Code), pe c ∧ (∀ k, U k ↔ V k ∨ k = D ∨ k = D + 1) ∧ ¬ V D ∧ ¬ V (D + 1) ∧ J pre V W ∧ W.heap[D + 1]? = some (.loop (rec st c)) ∧ W.heap[D]? = some (.deferred (some []))) :=
   fun st pe hs pre U W h k hk => by
    obtain ⟨V, c, hc, hU, n1, n2, hj, hl, hd⟩ := h
    rcases (hU k).1 hk with h1 | rfl | rfl
    ·exact hs _ _ _ hj k h1
    ·exact (Array.getElem?_eq_some_iff.1 hd).1
    ·exact (Array.getElem?_eq_some_iff.1 hl).1
  have hIxS : StabU (fun (pre : List α) (V : Nat → Prop) (W : World) => True) := fun _ _ _ _ _ _ => trivial
  refine (hseq (D + 1) (n - 1)
   (fun pre U W => ∃ (V : Nat → Prop) (c : Option Code), c = none ∧ (∀ k, U k ↔ V k ∨ k = D ∨ k = D + 1) ∧ ¬ V D ∧ ¬ V (D + 1) ∧ I pre V W ∧ W.heap[D + 1]? = some (.loop (rec .ready c)) ∧ W.heap[D]? = some (.deferred (some [])))
   (fun pre U W => ∃ c0 : Code, ∃ (V : Nat → Prop) (c : Option Code), c = some c0 ∧ (∀ k, U k ↔ V k ∨ k = D ∨ k = D + 1) ∧ ¬ V D ∧ ¬ V (D + 1) ∧ Ix c0 pre V W ∧ W.heap[D + 1]? = some (.loop (rec .done c)) ∧ W.heap[D]? = some (.deferred (some [])))
   (fun k => U0 k ∨ k = D ∨ k = D + 1) W1 hb1 (hext .ready (fun c => c = none) hI) (fun pre U W W' ⟨c0, h⟩ hk => ⟨c0, hext .done (fun c => c = some c0) (hIx c0) pre U W W' h hk⟩) (hlt .ready (fun c => c = none) lI) (fun pre U W ⟨c0, h⟩ => hlt .done (fun c => c = some c0) (lIx c0) pre U W h)
   (fun k hk h => by
    have h1 := hM k hk
    rcases h with h | h | h
    ·exact hMU k hk h
    ·omega
    ·omega)
   ?_ ⟨U0, none, rfl, fun _ => Iff.rfl, fun h => by have := hU0D _ h; omega, fun h => by have := hU0D _ h; omega, hI1, hL1, hK1⟩).mono ?_
  ·-- one round
   rintro m pre x U W ⟨V, c, rfl, hU, n1, n2, hi, hl, hk⟩ hpre
   have hlW : D + 1 < W.heap.size := (Array.getElem?_eq_some_iff.1 hl).1
   have hy := run_yield (P := P) (args := encs x) hl (by rw [hrec]; exact hps x)
   rw [hrec] at hy
   refine ⟨fn, _, assign, body, hy, roundIn_of_wpIn trivial (hassign m _ pre x V W _ hi hpre ?_)⟩
   clear hy
   intro a' V1 Wa hV1 hka hAx
   have hsa := hka.size
   have hla : Wa.heap[D + 1]? = some (.loop (rec .ready none)) := (hka.block _ hlW n2).trans hl
   have hda : Wa.heap[D]? = some (.deferred (some [])) := (hka.block _ (by omega) n1).trans hk
   have m1 : ¬ V1 D := fun h => by rcases hV1 _ h with h1 | h1; exact n1 h1; omega
   have m2 : ¬ V1 (D + 1) := fun h => by rcases hV1 _ h with h1 | h1; exact n2 h1; omega
   refine ⟨_, run_beginRound hla (by rw [hrec]), ?_⟩
   obtain ⟨Wb, hWb⟩ : ∃ Wb, Wb = Wa.putObj (D + 1) (.loop { rec .ready none with state := .busy }) := ⟨_, rfl⟩
   rw [← hWb]
   have hAb : A pre x a' V1 Wb := by rw [hWb]; exact hA pre x a' () V1 _ _ hAx (keepsU_put _ _ m2)
   have hlb : Wb.heap[D + 1]? = some (.loop { rec .ready none with state := .busy }) := by rw [hWb]; exact World.putObj_heap_same (by omega)
   have hdb : Wb.heap[D]? = some (.deferred (some [])) := by rw [hWb]; exact (World.putObj_heap_other (by omega)).trans hda
   have hkb : Kept U W Wb := by rw [hWb]; exact (hka.mono fun k h => (hU k).2 (.inl h)).trans (kept_put _ _ ((hU _).2 (.inr (.inr rfl))))
   have hsb : W.heap.size ≤ Wb.heap.size := hkb.size
   refine wpIn_mono (hbody m _ pre x a' V1 Wb hAb hpre) ?_
   have fin : ∀ {J : List α → (Nat → Prop) → World → Prop} (hs : StabU J) (jump : Option Code) (W3 : World), RoundU J (pre ++ [x]) V1 Wb W3 →
     (Instr.endRound (D + 1) jump).run P W3 = .ok (.bool jump.isNone) (W3.putObj (D + 1) (.loop (rec (if jump.isNone then .ready else .done) jump))) ∧
     ∃ U' : Nat → Prop, (∀ k, U' k → U k ∨ W.heap.size ≤ k) ∧ Kept U W (W3.putObj (D + 1) (.loop (rec (if jump.isNone then .ready else .done) jump))) ∧
     ∃ V' : Nat → Prop, (∀ k, U' k ↔ V' k ∨ k = D ∨ k = D + 1) ∧ ¬ V' D ∧ ¬ V' (D + 1) ∧ J (pre ++ [x]) V' (W3.putObj (D + 1) (.loop (rec (if jump.isNone then .ready else .done) jump))) ∧
     (W3.putObj (D + 1) (.loop (rec (if jump.isNone then .ready else .done) jump))).heap[D + 1]? = some (.loop (rec (if jump.isNone then .ready else .done) jump)) ∧
     (W3.putObj (D + 1) (.loop (rec (if jump.isNone then .ready else .done) jump))).heap[D]? = some (.deferred (some [])) := fun {J} hs jump W3 hp => by
    obtain ⟨V2, hV2, hk3, hj3⟩ := hp
    have hs3 := hk3.size
    have hl3 : W3.heap[D + 1]? = some (.loop { rec .ready none with state := .busy }) := (hk3.block _ (by omega) m2).trans hlb
    have hd3 : W3.heap[D]? = some (.deferred (some [])) := (hk3.block _ (by omega) m1).trans hdb
    have p1 : ¬ V2 D := fun h => by rcases hV2 _ h with h1 | h1; exact m1 h1; omega
    have p2 : ¬ V2 (D + 1) := fun h => by rcases hV2 _ h with h1 | h1; exact m2 h1; omega
    have he := run_endRound (P := P) jump hl3
    rw [hrec] at he ⊢
    refine ⟨he, fun k => V2 k ∨ k = D ∨ k = D + 1, ?_, ?_, V2, fun _ => Iff.rfl, p1, p2, hs _ _ _ _ hj3 (keepsU_put _ _ p2), World.putObj_heap_same (by omega), (World.putObj_heap_other (by omega)).trans hd3⟩
    ·rintro k (h | rfl | rfl)
     ·rcases hV2 k h with h1 | h1
      ·rcases hV1 k h1 with h2 | h2
       ·exact .inl ((hU k).2 (.inl h2))
       ·exact .inr h2
      ·right; omega
     ·exact .inl ((hU _).2 (.inr (.inl rfl)))
     ·exact .inl ((hU _).2 (.inr (.inr rfl)))
    ·refine (hkb.then hk3 fun k h => ?_).trans (kept_put _ _ ((hU _).2 (.inr (.inr rfl))))
     rcases hV1 k h with h1 | h1
     ·exact .inl ((hU k).2 (.inl h1))
     ·exact .inr h1
   rintro e a3 W3 hp
   cases e with
   | normal =>
    obtain ⟨hr, U', hU', hkp, V', q1, q2, q3, q4, q5, q6⟩ := fin hI none W3 hp
    exact ⟨_, _, hr, .inl ⟨rfl, U', hU', hkp, V', none, rfl, q1, q2, q3, q4, q5, q6⟩⟩
   | ret =>
    obtain ⟨hr, U', hU', hkp, V', q1, q2, q3, q4, q5, q6⟩ := fin (hIx _) (some .ret) W3 hp
    exact ⟨_, _, hr, .inr ⟨rfl, U', hU', hkp, .ret, V', _, rfl, q1, q2, q3, q4, q5, q6⟩⟩
   | exit id =>
    obtain ⟨hr, U', hU', hkp, V', q1, q2, q3, q4, q5, q6⟩ := fin (hIx _) (some (.exit id)) W3 hp
    exact ⟨_, _, hr, .inr ⟨rfl, U', hU', hkp, .exit id, V', _, rfl, q1, q2, q3, q4, q5, q6⟩⟩
   | goto t =>
    obtain ⟨hr, U', hU', hkp, V', q1, q2, q3, q4, q5, q6⟩ := fin (hIx _) (some (.goto t)) W3 hp
    exact ⟨_, _, hr, .inr ⟨rfl, U', hU', hkp, .goto t, V', _, rfl, q1, q2, q3, q4, q5, q6⟩⟩
   | panic ch => exact hp.elim
   | outgrown => exact hp.elim
  ·-- behind the iterator
   rintro e W2 ⟨⟨v, rfl⟩, U', (⟨V, c, rfl, hU, n1, n2, hi, hl, hk⟩ | ⟨pre, hpre, c0, V, c, rfl, hU, n1, n2, hi, hl, hk⟩)⟩
   ·exact ⟨none, _, by have := run_endLoop (P := P) hl (by rw [hrec]; simp); rw [hrec] at this; exact this, hdone _ V _ (by omega) n1 (hI _ _ _ _ hi (keepsU_put _ _ n2)) ((World.putObj_heap_other (by omega)).trans hk)⟩
   ·exact ⟨some c0, _, by have := run_endLoop (P := P) hl (by rw [hrec]; simp); rw [hrec] at this; exact this, hstop _ c0 pre V _ (by omega) n1 hpre (hIx c0 _ _ _ _ hi (keepsU_put _ _ n2)) ((World.putObj_heap_other (by omega)).trans hk)⟩
end Go.Proofs.Ytgnpldlgdapehaa

