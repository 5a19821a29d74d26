/-
  The law's 'does', the kinds that set the fuse and others (under way). Each with its conditions in its own statement.
-/
import Derived.Test.YtmkejkmgpigmhaaDevPair
namespace Go.Proofs.Ytmkejkmgpigmhaa
open Go.RowKit
open Go.Lib hiding intOf
set_option linter.unusedVariables false
set_option linter.unusedSimpArgs false

set_option maxRecDepth 100000 in
set_option maxHeartbeats 3200000 in
theorem does_fuse {w : World} {F R : Nat → Prop} {g o : Nat} {S : DevS} (h : Both w F R g o S) (a : Act3) (hk : a.kind % 9 = 7) (hlo : -9223372036854775808 ≤ a.at_) (hhi : a.at_ ≤ 9223372036854775807) :
    Calls Try.prog 29 #[.pointer (some ⟨g, 0, none⟩), .pointer (some ⟨o, 0, none⟩), .agg #[.int .i64 a.kind, .int .u32 a.n, .string a.block, .slice a.kA a.kn a.kc, .int .i64 a.at_]] w fun e w' => e = .returned (.bool true) ∧ Then w F R g o { S with fuse := a.at_ } w' := by
  have hb0 := abox_below w a
  have hbk : Blk (abox w a) w.heap.size 47 #[.int .i64 a.kind, .int .u32 a.n, .string a.block, .slice a.kA a.kn a.kc, .int .i64 a.at_] := Blk.new w _ _
  have hbk' := Blk.new w 47 #[.int .i64 a.kind, .int .u32 a.n, .string a.block, .slice a.kA a.kn a.kc, .int .i64 a.at_]
  have k0 := hbk'.cell 0
  have k4 := hbk'.cell 4
  have pk := pick9 hk
  have dt := dfuse_any (h.dev.new hb0) a.at_
  have H := Lib.hid h
  have HB0 := Lib.hid hb0
  have HBK := Lib.hid hbk
  have HF := Lib.hid (h.fair.fu hlo hhi)
  unfold abox at dt
  clear hb0 hk hbk hbk' hlo hhi
  go_enter Try.func29, Try.ntmps29
  go_wp2_with fail
  refine (pk _).mono ?_
  rintro e w' ⟨rfl, rfl⟩
  go_wp2_with fail
  refine dt.mono ?_
  rintro e w1 ⟨rfl, hd1, hk1⟩
  have j4 := (Kept.blk hk1 HBK.out (fun hf => by have := H.out.dev.lt _ hf; omega)).cell 4
  have hm := H.out.mid (w0 := abox w a) (w1 := w1) (w2 := w1) HB0.out hk1 (Below.refl _ _)
  have rs := rfuse_any hm a.at_
  go_wp2_with fail
  refine rs.mono ?_
  rintro e w3 ⟨rfl, hr, hk2⟩
  go_wp2_with fail
  go_ret
  have hd1' := hd1.wide (fun k hk => Or.inl (b := (abox w a).heap.size ≤ k ∧ k < w1.heap.size) hk) (grow_lt (H.out.dev.new HB0.out).lt hk1.size)
  have hr' := hr.wide (fun k hk => Or.inl (b := w1.heap.size ≤ k ∧ k < w3.heap.size) hk) (grow_lt hm.lt hk2.size)
  have hst := H.out.step (w0 := abox w a) HB0.out hd1' hk1 (Below.refl _ _) hr' hk2 HF.out
  exact ⟨by first | rfl | simp, hst⟩
end Go.Proofs.Ytmkejkmgpigmhaa
