/-
  A device and a reference beside each other: what a call on each leaves of both; the law's 'does' (under way). Each with its conditions in its own statement.
-/
import Derived.Test.YtmkejkmgpigmhaaDevDoes
import Derived.Test.YtmkejkmgpigmhaaDevBoth
namespace Go.Proofs.Ytmkejkmgpigmhaa
open Go.RowKit
open Go.Lib hiding intOf
set_option linter.unusedVariables false
set_option linter.unusedSimpArgs false

/-- A device and a reference of the same state on footprints that do not meet. -/
structure Both (w : World) (F R : Nat → Prop) (g o : Nat) (S : DevS) : Prop where
  dev : Dev w F g S
  ref : Ref w R o S
  dis : ∀ k, F k → ¬ R k
  fair : Fair S
/-- Both behind a call. -/
def Then (w : World) (F R : Nat → Prop) (g o : Nat) (S' : DevS) (w' : World) : Prop :=
  ∃ F' R', Both w' F' R' g o S' ∧ (∀ k, F' k → F k ∨ w.heap.size ≤ k) ∧ (∀ k, R' k → R k ∨ w.heap.size ≤ k) ∧ Kept (fun k => F k ∨ R k) w w'
section
variable {w w0 w1 w2 w3 : World} {F R : Nat → Prop} {g o : Nat} {S S' : DevS}
theorem Both.new (h : Both w F R g o S) (hb : Below w.heap.size w w0) : Both w0 F R g o S := ⟨h.dev.new hb, h.ref.new hb, h.dis, h.fair⟩
/-- The reference behind the device's call. -/
theorem Both.mid (h : Both w F R g o S) (hb0 : Below w.heap.size w w0) (hk1 : Kept F w0 w1) (hb1 : Below w1.heap.size w1 w2) : Ref w2 R o S :=
  ((h.ref.new hb0).kept hk1 fun k hr hf => h.dis k hf hr).new hb1
theorem Both.step (h : Both w F R g o S) (hb0 : Below w.heap.size w w0) (hd1 : Dev w1 (Grow F w0 w1) g S') (hk1 : Kept F w0 w1) (hb1 : Below w1.heap.size w1 w2) (hr : Ref w3 (Grow R w2 w3) o S') (hk2 : Kept R w2 w3) (hf : Fair S') : Then w F R g o S' w3 := by
  have z0 := hb0.size
  have z1 := hk1.size
  have z2 := hb1.size
  have z3 := hk2.size
  have hFR : ∀ k, Grow F w0 w1 k → ¬ R k := by
    rintro k (h1 | ⟨h1, _⟩) h2
    · exact h.dis k h1 h2
    · have := h.ref.lt k h2
      omega
  refine ⟨Grow F w0 w1, Grow R w2 w3, ⟨(hd1.new hb1).kept hk2 hFR, hr, ?_, hf⟩, ?_, ?_, ?_⟩
  · rintro k h1 (h2 | ⟨h2, _⟩)
    · exact hFR k h1 h2
    · rcases h1 with h1 | ⟨_, h1⟩
      · have := h.dev.lt k h1
        omega
      · omega
  · rintro k (h1 | ⟨h1, _⟩)
    · exact .inl h1
    · exact .inr (by omega)
  · rintro k (h1 | ⟨h1, _⟩)
    · exact .inl h1
    · exact .inr (by omega)
  · exact ((((Kept.of_new hb0).trans (hk1.mono fun k hk => .inl hk)).trans (Kept.of_new hb1)).trans (hk2.mono fun k hk => .inr hk))
theorem Then.new (h : Then w F R g o S' w1) (hb : Below w1.heap.size w1 w2) : Then w F R g o S' w2 := by
  obtain ⟨F', R', h1, h2, h3, h4⟩ := h
  exact ⟨F', R', h1.new hb, h2, h3, h4.trans (Kept.of_new hb)⟩
end
theorem pick9 {z : Int} {m : Int} (h : z % 9 = m) (W : World) : Calls Try.prog 31 #[.int .i64 z, .int .i64 9] W fun e w' => e = .returned (.int .i64 m) ∧ W = w' := by
  have := pick_any z 9 W (by decide) (by decide)
  rw [show z % ((9 : Nat) : Int) = m from h] at this
  exact this
def abox (w : World) (a : Act3) : World := w.alloc (.cells #[.int .i64 a.kind, .int .u32 a.n, .string a.block, .slice a.kA a.kn a.kc, .int .i64 a.at_] 47)
theorem abox_below (w : World) (a : Act3) : Below w.heap.size w (abox w a) := (Below.refl _ _).alloc (Nat.le_refl _) _

set_option maxRecDepth 100000 in
set_option maxHeartbeats 1600000 in
theorem does_sync {w : World} {F R : Nat → Prop} {g o : Nat} {S : DevS} (h : Both w F R g o S) (hops : S.ops + 1 ≤ 4294967296) (a : Act3) (hk : a.kind % 9 = 4) :
    Calls Try.prog 29 #[.pointer (some ⟨g, 0, none⟩), .pointer (some ⟨o, 0, none⟩), .agg #[.int .i64 a.kind, .int .u32 a.n, .string a.block, .slice a.kA a.kn a.kc, .int .i64 a.at_]] w fun e w' => e = .returned (.bool true) ∧ Then w F R g o (syS S) w' := by
  have hb0 := abox_below w a
  have hbk := Blk.new w 47 #[.int .i64 a.kind, .int .u32 a.n, .string a.block, .slice a.kA a.kn a.kc, .int .i64 a.at_]
  have k0 := hbk.cell 0
  have pk := pick9 hk
  have ds := dsy_any (h.dev.new hb0) h.fair
  have H := Lib.hid h
  have HB0 := Lib.hid hb0
  unfold abox at ds
  clear hb0 hk
  go_enter Try.func29, Try.ntmps29
  go_wp2_with fail
  refine (pk _).mono ?_
  rintro e w' ⟨rfl, rfl⟩
  go_wp2_with fail
  refine ds.mono ?_
  rintro e w1 ⟨rfl, hd1, hk1⟩
  have hm := H.out.mid (w0 := abox w a) (w1 := w1) (w2 := w1) HB0.out hk1 (Below.refl _ _)
  have rs := rsy_any hm H.out.fair
  go_wp2_with fail
  refine rs.mono ?_
  rintro e w3 ⟨rfl, hr, hk2⟩
  go_wp2_with fail
  go_ret
  have hst := H.out.step (w0 := abox w a) HB0.out hd1 hk1 (Below.refl _ _) hr hk2 (H.out.fair.sy hops)
  exact ⟨by simp, hst⟩

set_option maxRecDepth 100000 in
set_option maxHeartbeats 3200000 in
theorem does_tr {w : World} {F R : Nat → Prop} {g o : Nat} {S : DevS} (h : Both w F R g o S) (hops : S.ops + 1 ≤ 4294967296) (a : Act3) (hk : a.kind % 9 = 3) (hn : a.n ≤ 4294967295) :
    Calls Try.prog 29 #[.pointer (some ⟨g, 0, none⟩), .pointer (some ⟨o, 0, none⟩), .agg #[.int .i64 a.kind, .int .u32 a.n, .string a.block, .slice a.kA a.kn a.kc, .int .i64 a.at_]] w fun e w' => e = .returned (.bool true) ∧ Then w F R g o (trS S a.n) w' := by
  have hb0 := (abox_below w a).drew
  have hbk : Blk (abox w a).drew w.heap.size 47 #[.int .i64 a.kind, .int .u32 a.n, .string a.block, .slice a.kA a.kn a.kc, .int .i64 a.at_] := (Blk.new w _ _).drew
  have hbk' := Blk.new w 47 #[.int .i64 a.kind, .int .u32 a.n, .string a.block, .slice a.kA a.kn a.kc, .int .i64 a.at_]
  have k0 := hbk'.cell 0
  have k1 := hbk'.cell 1
  have pk := pick9 hk
  have dt := dtr_any (h.dev.new hb0) h.fair a.n
  have H := Lib.hid h
  have HB0 := Lib.hid hb0
  have HBK := Lib.hid hbk
  have HN := Lib.hid hn
  unfold abox at dt
  clear hb0 hk hn hbk hbk'
  go_enter Try.func29, Try.ntmps29
  go_wp2_with fail
  refine (pk _).mono ?_
  rintro e w' ⟨rfl, rfl⟩
  go_wp2_with fail
  go_region_with (first
    | (go_at_call 14
       refine dt.mono ?_
       rintro e w1 ⟨rfl, hd1, hk1⟩
       have j1 := (Kept.blk hk1 HBK.out (fun hf => by have := H.out.dev.lt _ hf; omega)).cell 1)
    | (go_at_call 47
       refine (rtr_any (H.out.mid (w0 := (abox w a).drew) (w1 := w1) (w2 := w1) HB0.out hk1 (Below.refl _ _)) H.out.fair a.n HN.out).mono ?_
       rintro e w3 ⟨rfl, hr, hk2⟩))
  all_goals (go_wp2_with fail; go_ret)
  all_goals
    have hst := H.out.step (w0 := (abox w a).drew) HB0.out hd1 hk1 (Below.refl _ _) hr hk2 (H.out.fair.tr hops a.n)
    exact ⟨by first | rfl | simp, hst⟩
end Go.Proofs.Ytmkejkmgpigmhaa
