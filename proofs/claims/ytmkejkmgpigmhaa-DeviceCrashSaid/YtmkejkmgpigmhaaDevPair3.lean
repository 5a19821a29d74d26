/-
  The law's 'does', the kinds that write, read and crash; all kinds in one. Each with its conditions in its own statement.
-/
import Derived.Test.YtmkejkmgpigmhaaDevPair2
import Derived.Deep.RegionHeld3
import Derived.Deep.DrawnRows
namespace Go.Proofs.Ytmkejkmgpigmhaa
open Go.RowKit
open Go.Lib hiding intOf
set_option linter.unusedVariables false
set_option linter.unusedSimpArgs false
attribute [local go_sem ↓] Go.wp_at_zero Go.wp_at_succ

theorem Reads.keptF {F : Nat → Prop} {w w' : World} {B size n : Nat} {A : Option Addr} {xs : List Value} (h : Reads w B size A n xs) (hk : Kept F w w') (hF : ∀ k, F k → B ≤ k) (hB : B ≤ w.heap.size) : Reads w' B size A n xs :=
  h.keep fun p hp => hk.cell (by omega) (fun hf => by have := hF _ hf; omega)

set_option maxRecDepth 100000 in
set_option maxHeartbeats 3200000 in
theorem does_wr8 {w : World} {F R : Nat → Prop} {g o : Nat} {S : DevS} (h : Both w F R g o S) (hops : S.ops + 1 ≤ 4294967296) (a : Act3) (hk : a.kind % 9 = 8) (hn : a.n ≤ 4294967295) :
    Calls Try.prog 29 #[.pointer (some ⟨g, 0, none⟩), .pointer (some ⟨o, 0, none⟩), .agg #[.int .i64 a.kind, .int .u32 a.n, .string a.block, .slice a.kA a.kn a.kc, .int .i64 a.at_]] w fun e w' => e = .returned (.bool true) ∧ Then w F R g o (wrS S a.n a.block) w' := by
  have hb0 := (abox_below w a).drew
  have hbk : Blk (abox w a).drew w.heap.size 47 #[.int .i64 a.kind, .int .u32 a.n, .string a.block, .slice a.kA a.kn a.kc, .int .i64 a.at_] := (Blk.new w _ _).drew
  have hbk' := Blk.new w 47 #[.int .i64 a.kind, .int .u32 a.n, .string a.block, .slice a.kA a.kn a.kc, .int .i64 a.at_]
  have k0 := hbk'.cell 0
  have k1 : (w.alloc (.cells #[.int .i64 a.kind, .int .u32 a.n, .string a.block, .slice a.kA a.kn a.kc, .int .i64 a.at_] 47)).cell? ⟨w.heap.size, 1, none⟩ = some (.int .u32 a.n) := hbk'.cell 1
  have k2 : (w.alloc (.cells #[.int .i64 a.kind, .int .u32 a.n, .string a.block, .slice a.kA a.kn a.kc, .int .i64 a.at_] 47)).cell? ⟨w.heap.size, 2, none⟩ = some (.string a.block) := hbk'.cell 2
  have pk := pick9 hk
  have dt := dwr_any (h.dev.new hb0) h.fair a.n a.block
  have H := Lib.hid h
  have HB0 := Lib.hid hb0
  have HBK := Lib.hid hbk
  have HN := Lib.hid hn
  unfold abox at dt
  clear hb0 hk hn hbk hbk'
  go_enter Try.func29, Try.ntmps29
  go_wp2_with fail
  refine (pk _).mono ?_
  rintro e w' ⟨rfl, rfl⟩
  go_wp2_with fail
  go_region_held3 (fun w' => w'.cell? ⟨w.heap.size, 1, none⟩ = some (.int .u32 a.n) ∧ w'.cell? ⟨w.heap.size, 2, none⟩ = some (.string a.block))
    (first | exact ⟨i1, i2⟩ | exact ⟨j1, j2⟩ | exact ⟨k1, k2⟩)
    (first
      | (go_at_call 13
         (with_reducible refine dt.mono ?_)
         rintro e w1 ⟨rfl, hd1, hk1⟩
         have hbk1 := Kept.blk hk1 HBK.out (fun hf => by have := H.out.dev.lt _ hf; omega)
         have j1 : w1.cell? ⟨w.heap.size, 1, none⟩ = some (.int .u32 a.n) := hbk1.cell 1
         have j2 : w1.cell? ⟨w.heap.size, 2, none⟩ = some (.string a.block) := hbk1.cell 2)
      | (go_at_call 46
         have hm := H.out.mid (w0 := (abox w a).drew) (w1 := w1) (w2 := w1) HB0.out hk1 (Below.refl _ _)
         (with_reducible refine (rwr_any hm H.out.fair a.n a.block HN.out).mono ?_)
         rintro e w3 ⟨rfl, hr, hk2⟩
         have hbk3 := Kept.blk hk2 hbk1 (fun hf => by have := H.out.ref.lt _ hf; omega)
         have i1 : w3.cell? ⟨w.heap.size, 1, none⟩ = some (.int .u32 a.n) := hbk3.cell 1
         have i2 : w3.cell? ⟨w.heap.size, 2, none⟩ = some (.string a.block) := hbk3.cell 2))
  all_goals (go_wp2_with fail; go_ret)
  all_goals
    have hst := H.out.step (w0 := (abox w a).drew) HB0.out hd1 hk1 (Below.refl _ _) hr hk2 (H.out.fair.wr hops a.n a.block)
    exact ⟨by first | rfl | simp, hst⟩

set_option maxRecDepth 100000 in
set_option maxHeartbeats 3200000 in
theorem does_wr {w : World} {F R : Nat → Prop} {g o : Nat} {S : DevS} (h : Both w F R g o S) (hops : S.ops + 1 ≤ 4294967296) (a : Act3) (hk : a.kind % 9 = 0 ∨ a.kind % 9 = 1 ∨ a.kind % 9 = 2) (hn : a.n ≤ 4294967295) (hbl : a.block.size ≤ maxLen) :
    Calls Try.prog 29 #[.pointer (some ⟨g, 0, none⟩), .pointer (some ⟨o, 0, none⟩), .agg #[.int .i64 a.kind, .int .u32 a.n, .string a.block, .slice a.kA a.kn a.kc, .int .i64 a.at_]] w fun e w' => e = .returned (.bool true) ∧ Then w F R g o (wrS S a.n (fillB a.block)) w' := by
  have hb0 := (abox_below w a).drew
  have hbk : Blk (abox w a).drew w.heap.size 47 #[.int .i64 a.kind, .int .u32 a.n, .string a.block, .slice a.kA a.kn a.kc, .int .i64 a.at_] := (Blk.new w _ _).drew
  have hbk' := Blk.new w 47 #[.int .i64 a.kind, .int .u32 a.n, .string a.block, .slice a.kA a.kn a.kc, .int .i64 a.at_]
  have k0 := hbk'.cell 0
  have k1 : (w.alloc (.cells #[.int .i64 a.kind, .int .u32 a.n, .string a.block, .slice a.kA a.kn a.kc, .int .i64 a.at_] 47)).cell? ⟨w.heap.size, 1, none⟩ = some (.int .u32 a.n) := hbk'.cell 1
  have k2 : (w.alloc (.cells #[.int .i64 a.kind, .int .u32 a.n, .string a.block, .slice a.kA a.kn a.kc, .int .i64 a.at_] 47)).cell? ⟨w.heap.size, 2, none⟩ = some (.string a.block) := hbk'.cell 2
  have ft := fun W => filled_any a.block W hbl
  obtain ⟨bk, hbk2⟩ : ∃ bk, bk = fillB a.block := ⟨_, rfl⟩
  rw [← hbk2] at ft ⊢
  have H := Lib.hid h
  have HB0 := Lib.hid hb0
  have HBK := Lib.hid hbk
  have HN := Lib.hid hn
  clear hb0 hn hbk hbk' hbk2
  rcases hk with hk | hk | hk
  all_goals
    have pk := pick9 hk
    clear hk
    go_enter Try.func29, Try.ntmps29
    go_wp2_with fail
    refine (pk _).mono ?_
    rintro e w' ⟨rfl, rfl⟩
    go_wp2_with fail
    go_region_held3 (fun w' => w'.cell? ⟨w.heap.size, 1, none⟩ = some (.int .u32 a.n) ∧ w'.cell? ⟨w.heap.size, 2, none⟩ = some (.string a.block))
      (first | exact ⟨i1, i2⟩ | exact ⟨l1, l2⟩ | exact ⟨j1, j2⟩ | exact ⟨m1, m2⟩ | exact ⟨k1, k2⟩)
      (first
        | (go_at_call 45
           have _hq := hd2
           (with_reducible refine (ft _).mono ?_)
           rintro e w3 ⟨rfl, hb3⟩
           have hbk3 := hbk2.below hb3 hbk2.lt
           have l1 : w3.cell? ⟨w.heap.size, 1, none⟩ = some (.int .u32 a.n) := hbk3.cell 1
           have l2 : w3.cell? ⟨w.heap.size, 2, none⟩ = some (.string a.block) := hbk3.cell 2)
        | (go_at_call 45
           (with_reducible refine (ft _).mono ?_)
           rintro e w1 ⟨rfl, hb1⟩
           have hbk1 := HBK.out.below hb1 HBK.out.lt
           have hb01 : Below w.heap.size w w1 := HB0.out.trans (hb1.mono HB0.out.size)
           have m1 : w1.cell? ⟨w.heap.size, 1, none⟩ = some (.int .u32 a.n) := hbk1.cell 1
           have m2 : w1.cell? ⟨w.heap.size, 2, none⟩ = some (.string a.block) := hbk1.cell 2)
        | (go_at_call 13
           (with_reducible refine (dwr_any (H.out.dev.new hb01) H.out.fair a.n bk).mono ?_)
           rintro e w2 ⟨rfl, hd2, hk2⟩
           have hbk2 := Kept.blk hk2 hbk1 (fun hf => by have := H.out.dev.lt _ hf; omega)
           have j1 : w2.cell? ⟨w.heap.size, 1, none⟩ = some (.int .u32 a.n) := hbk2.cell 1
           have j2 : w2.cell? ⟨w.heap.size, 2, none⟩ = some (.string a.block) := hbk2.cell 2)
        | (go_at_call 46
           (with_reducible refine (rwr_any (H.out.mid (w0 := w1) (w1 := w2) (w2 := w3) hb01 hk2 hb3) H.out.fair a.n bk HN.out).mono ?_)
           rintro e w4 ⟨rfl, hr, hk4⟩
           have hbk4 := Kept.blk hk4 hbk3 (fun hf => by have := H.out.ref.lt _ hf; omega)
           have i1 : w4.cell? ⟨w.heap.size, 1, none⟩ = some (.int .u32 a.n) := hbk4.cell 1
           have i2 : w4.cell? ⟨w.heap.size, 2, none⟩ = some (.string a.block) := hbk4.cell 2))
    go_wp2_with fail
    go_ret
    have hst := H.out.step (w0 := w1) hb01 hd2 hk2 hb3 hr hk4 (H.out.fair.wr hops a.n bk)
    exact ⟨by first | rfl | simp, hst⟩

set_option maxRecDepth 100000 in
set_option maxHeartbeats 3200000 in
theorem does_rd {w : World} {F R : Nat → Prop} {g o : Nat} {S : DevS} (h : Both w F R g o S) (a : Act3) (hk : a.kind % 9 = 5) (hn : a.n ≤ 4294967295) :
    Calls Try.prog 29 #[.pointer (some ⟨g, 0, none⟩), .pointer (some ⟨o, 0, none⟩), .agg #[.int .i64 a.kind, .int .u32 a.n, .string a.block, .slice a.kA a.kn a.kc, .int .i64 a.at_]] w fun e w' => e = .returned (.bool true) ∧ Then w F R g o S w' := by
  have hb0 := abox_below w a
  have hbk' := Blk.new w 47 #[.int .i64 a.kind, .int .u32 a.n, .string a.block, .slice a.kA a.kn a.kc, .int .i64 a.at_]
  have k0 := hbk'.cell 0
  have k1 := hbk'.cell 1
  have pk := pick9 hk
  have dt := drd_any (h.dev.new hb0) a.n
  have rt := rrd_any (h.ref.new hb0) a.n hn
  unfold abox at dt rt
  obtain ⟨B, hB⟩ : ∃ B, B = rdB S a.n := ⟨_, rfl⟩
  obtain ⟨E, hE⟩ : ∃ E, E = rdE S a.n := ⟨_, rfl⟩
  rw [← hB, ← hE] at dt rt
  have H := Lib.hid h
  have HB0 := Lib.hid hb0
  clear hb0 hk hn hbk' hB hE
  go_enter Try.func29, Try.ntmps29
  go_wp2_with fail
  refine (pk _).mono ?_
  rintro e w' ⟨rfl, rfl⟩
  go_wp2_with fail
  refine dt.mono ?_
  rintro e w' ⟨rfl, rfl⟩
  go_wp2_with fail
  refine rt.mono ?_
  rintro e w3 ⟨rfl, hb3⟩
  go_wp2_with fail
  go_ret
  refine ⟨by first | rfl | simp, ?_⟩
  have hb : Below w.heap.size w w3 := HB0.out.trans (hb3.mono HB0.out.size)
  exact ⟨F, R, H.out.new hb, fun k hk => .inl hk, fun k hk => .inl hk, Kept.of_new hb⟩

set_option maxRecDepth 100000 in
set_option maxHeartbeats 3200000 in
theorem does_cr {w : World} {F R : Nat → Prop} {g o : Nat} {S : DevS} (h : Both w F R g o S) (hops : S.ops + 1 ≤ 4294967296) (a : Act3) (hk : a.kind % 9 = 6) {B : Nat} (hB : B ≤ w.heap.size) (hF : ∀ k, F k → B ≤ k) (hkr : Reads w B 1 a.kA a.kn (a.keep.map (Value.int .i64))) (hkn : a.kn ≤ 17592186044416) :
    Calls Try.prog 29 #[.pointer (some ⟨g, 0, none⟩), .pointer (some ⟨o, 0, none⟩), .agg #[.int .i64 a.kind, .int .u32 a.n, .string a.block, .slice a.kA a.kn a.kc, .int .i64 a.at_]] w fun e w' => e = .returned (.bool true) ∧ Then w F R g o (crS S a.keep) w' := by
  have hb0 := (abox_below w a).drew
  have hbk : Blk (abox w a).drew w.heap.size 47 #[.int .i64 a.kind, .int .u32 a.n, .string a.block, .slice a.kA a.kn a.kc, .int .i64 a.at_] := (Blk.new w _ _).drew
  have hbk' := Blk.new w 47 #[.int .i64 a.kind, .int .u32 a.n, .string a.block, .slice a.kA a.kn a.kc, .int .i64 a.at_]
  have k0 := hbk'.cell 0
  have k3 : (w.alloc (.cells #[.int .i64 a.kind, .int .u32 a.n, .string a.block, .slice a.kA a.kn a.kc, .int .i64 a.at_] 47)).cell? ⟨w.heap.size, 3, none⟩ = some (.slice a.kA a.kn a.kc) := hbk'.cell 3
  have pk := pick9 hk
  have hkr1 : Reads w (abox w a).drew.heap.size 1 a.kA a.kn (a.keep.map (Value.int .i64)) := hkr.more (Nat.le_trans hB hb0.size)
  have hkr0 : Reads (abox w a).drew (abox w a).drew.heap.size 1 a.kA a.kn (a.keep.map (Value.int .i64)) := (hkr.below (hb0.mono hB)).more (Nat.le_trans hB hb0.size)
  have ot := own_any a.kc hkr0 hkn
  unfold abox at ot
  have H := Lib.hid h
  have HB0 := Lib.hid hb0
  have HBK := Lib.hid hbk
  have HKR := Lib.hid hkr0
  have HKB := Lib.hid hkr
  have HKN := Lib.hid hkn
  have HF := Lib.hid hF
  have HOP := Lib.hid hops
  clear hb0 hk hbk hbk' hkr0 hkr1 hkr hkn hF hops
  go_enter Try.func29, Try.ntmps29
  go_wp2_with fail
  refine (pk _).mono ?_
  rintro e w' ⟨rfl, rfl⟩
  go_wp2_with fail
  go_region_held3 (fun w' => w'.cell? ⟨w.heap.size, 3, none⟩ = some (.slice a.kA a.kn a.kc))
    (first | exact i3 | exact j3 | exact m3 | exact k3)
    (first
      | (go_at_call 32
         (with_reducible refine ot.mono ?_)
         rintro e w1 ⟨A', c', rfl, hown, hb1⟩
         have hbk1 := HBK.out.below hb1 HBK.out.lt
         have hb01 : Below w.heap.size w w1 := HB0.out.trans (hb1.mono HB0.out.size)
         have m3 : w1.cell? ⟨w.heap.size, 3, none⟩ = some (.slice a.kA a.kn a.kc) := hbk1.cell 3)
      | (go_at_call 19
         have q1 : S.ops ≤ 4294967296 := by have := HOP.out; omega
         have q2 : a.kn ≤ maxLen := by have := HKN.out; unfold maxLen; omega
         have q3 : ∀ ad, A' = some ad → ¬ F ad.block := fun ad e hf => by
           subst e
           have h1 : (abox w a).drew.heap.size ≤ ad.block := (hown.lt ad.block rfl).1
           have h2 := H.out.dev.lt _ hf
           have h3 := HB0.out.size
           omega
         have hdc := dcrash_any (H.out.dev.new hb01) q1 c' (Reads.of_own hown) q2 q3
         (with_reducible refine hdc.mono ?_)
         rintro e w2 ⟨rfl, hd2, hk2⟩
         have hbk2 := Kept.blk hk2 hbk1 (fun hf => by have := H.out.dev.lt _ hf; omega)
         have j3 : w2.cell? ⟨w.heap.size, 3, none⟩ = some (.slice a.kA a.kn a.kc) := hbk2.cell 3)
      | (go_at_call 50
         have hm := H.out.mid (w0 := w1) (w1 := w2) (w2 := w2) hb01 hk2 (Below.refl _ _)
         have q1 : S.ops ≤ 4294967296 := by have := HOP.out; omega
         have hrc := rcrash_any (keep := a.keep) hm q1 a.kc ((HKB.out.below (hb01.mono hB)).keptF hk2 HF.out (Nat.le_trans hB hb01.size) |>.more (Nat.le_trans (Nat.le_trans hB hb01.size) hk2.size)) HKN.out
         (with_reducible refine hrc.mono ?_)
         rintro e w3 ⟨rfl, hr, hk3⟩
         have hbk3 := Kept.blk hk3 hbk2 (fun hf => by have := H.out.ref.lt _ hf; omega)
         have i3 : w3.cell? ⟨w.heap.size, 3, none⟩ = some (.slice a.kA a.kn a.kc) := hbk3.cell 3))
  go_wp2_with fail
  go_ret
  have hd3 : Dev w2 (Grow F w1 w2) g (crS S a.keep) := by
    have e : crS S a.keep = { S with img := keepUp S.size a.keep S.pend S.dur S.pend.length, dur := keepUp S.size a.keep S.pend S.dur S.pend.length, pend := [], fuse := -1 } := by
      unfold crS
      rw [H.out.fair.sz]
    rw [e]
    exact hd2
  have hr' := hr.wide (fun k hk => Or.inl (b := w2.heap.size ≤ k ∧ k < w3.heap.size) hk) (grow_lt (H.out.mid (w0 := w1) (w1 := w2) (w2 := w2) hb01 hk2 (Below.refl _ _)).lt hk3.size)
  have hst := H.out.step (S' := crS S a.keep) (w0 := w1) hb01 hd3 hk2 (Below.refl _ _) hr' hk3 (H.out.fair.cr a.keep)
  exact ⟨by first | rfl | simp, hst⟩
end Go.Proofs.Ytmkejkmgpigmhaa
