/-
  The walk of AllocScript.
-/
import Derived.Test.YtofbglgdmabafaaJ43
namespace Go.Proofs.Ytofbglgdmabafaa
open Go.RowKit
open Go.Lib hiding intOf
set_option linter.unusedVariables false
set_option linter.unusedSimpArgs false
attribute [local go_sem ↓] Go.wp_at_zero Go.wp_at_succ

def RfIn (o : Nat) (S : AlS) (w : World) (G : Nat → Prop) : Prop := ∃ Ga : Nat → Prop, (∀ k, Ga k → G k) ∧ Rf w Ga o S
theorem rest_rf (o : Nat) (S : AlS) : Rest (RfIn o S) :=
  ⟨fun w w' G F ⟨Ga, hs, ha⟩ hk hd _ => ⟨Ga, hs, ha.kept hk fun k hg hf => hd k hf (hs k hg)⟩, fun w G G' ⟨Ga, hs, ha⟩ hG => ⟨Ga, fun k hk => hG k (hs k hk), ha⟩⟩
section
variable {w0 w : World} {g o : Nat} {S T : AlS}
end
theorem htake2 {w0 w : World} {g o : Nat} {S T : AlS} (h : Held w0 w g S (RfIn o T)) :
    Calls Try.prog 23 #[.pointer (some ⟨o, 0, none⟩)] w fun e w' => e = .returned (.tuple #[.int .u32 T.takes.1, .int .i64 T.takes.2.1]) ∧ Held w0 w' g S (RfIn o T.takes.2.2) := by
  obtain ⟨F, G, hh⟩ := id h
  obtain ⟨Ga, hsub, hr⟩ := hh.rest
  refine (ftake_any hr).mono ?_
  rintro e w' ⟨rfl, h1, h2⟩
  refine ⟨rfl, F, fun k => G k ∨ (w.heap.size ≤ k ∧ k < w'.heap.size), hh.bel.trans ((h2.mono hsub).below hh.gb hh.bel.size), hh.al.kept h2 (fun k hf hg => hh.apart k hf (hsub k hg)), hh.fb, ⟨GrowF Ga w w', fun k hk => hk.imp (hsub k) id, h1⟩, fun k hk => ?_, fun k hk => ?_, fun k hf hk => ?_⟩
  · rcases hk with hk | ⟨hk, _⟩
    · exact hh.gb k hk
    · exact Nat.le_trans hh.bel.size hk
  · rcases hk with hk | ⟨_, hk⟩
    · exact Nat.lt_of_lt_of_le (hh.gl k hk) h2.size
    · exact hk
  · rcases hk with hk | ⟨hk, _⟩
    · exact hh.apart k hf hk
    · have := hh.al.lt k hf; omega
theorem hgive2 {w0 w : World} {g o : Nat} {S T : AlS} (h : Held w0 w g S (RfIn o T)) (n : Nat) :
    Calls Try.prog 24 #[.pointer (some ⟨o, 0, none⟩), .int .u32 n] w fun e w' => e = .returned (.int .i64 (T.gives n).1) ∧ Held w0 w' g S (RfIn o (T.gives n).2) := by
  obtain ⟨F, G, hh⟩ := id h
  obtain ⟨Ga, hsub, hr⟩ := hh.rest
  refine (fgive_any hr n).mono ?_
  rintro e w' ⟨rfl, h1, h2⟩
  refine ⟨rfl, F, fun k => G k ∨ (w.heap.size ≤ k ∧ k < w'.heap.size), hh.bel.trans ((h2.mono hsub).below hh.gb hh.bel.size), hh.al.kept h2 (fun k hf hg => hh.apart k hf (hsub k hg)), hh.fb, ⟨GrowF Ga w w', fun k hk => hk.imp (hsub k) id, h1⟩, fun k hk => ?_, fun k hk => ?_, fun k hf hk => ?_⟩
  · rcases hk with hk | ⟨hk, _⟩
    · exact hh.gb k hk
    · exact Nat.le_trans hh.bel.size hk
  · rcases hk with hk | ⟨_, hk⟩
    · exact Nat.lt_of_lt_of_le (hh.gl k hk) h2.size
    · exact hk
  · rcases hk with hk | ⟨hk, _⟩
    · exact hh.apart k hf hk
    · have := hh.al.lt k hf; omega
/-- How many pages an allocation tells of in all. -/
def AlS.all (S : AlS) : Nat := S.now.length + S.took.length + S.gave.length
theorem AlS.take_all (S : AlS) : S.takes.2.2.all ≤ S.all + 1 := by
  unfold AlS.takes AlS.all
  split
  · rename_i n r hn
    simp only [withU_len, hn, List.length_cons]
    omega
  · split
    · simp
    · simp only [withU_len]
      omega
theorem AlS.give_all {S : AlS} (h : S.ok) (n : Nat) : (S.gives n).2.all ≤ S.all + 1 := by
  unfold AlS.gives AlS.all
  split
  · simp
  · split
    · simp
    · split
      · rename_i ht
        have := lessU1_len h.r2 (inU_iff.1 ht)
        simp only [withU_len]
        omega
      · simp only [withU_len]
        omega
theorem rf_two {w : World} {o : Nat} {a0 a1 a2 a3 a4 : Value} (h : Blk w o 44 #[a0, a1, a2, a3, a4]) : w.cell? ⟨o, 1, none⟩ = some a1 ∧ w.cell? ⟨o, 3, none⟩ = some a3 := ⟨h.cell 1, h.cell 3⟩
/-- Two allocations made. -/
theorem Held.madeRf {w0 w w1 w2 : World} {g o : Nat} {S : AlS} (hb0 : Below w0.heap.size w0 w) (hb1 : Below w.heap.size w w1) (ha : Al w1 (fun k => w.heap.size ≤ k ∧ k < w1.heap.size) g S) (hb2 : Below w1.heap.size w1 w2) (hr : Rf w2 (fun k => w1.heap.size ≤ k ∧ k < w2.heap.size) o S) : Held w0 w2 g S (RfIn o S) :=
  ⟨_, fun k => w1.heap.size ≤ k ∧ k < w2.heap.size, (hb0.trans (hb1.mono hb0.size)).trans (hb2.mono (Nat.le_trans hb0.size hb1.size)), ha.new hb2, fun k hk => Nat.le_trans hb0.size hk.1, ⟨_, fun k hk => hk, hr⟩, fun k hk => Nat.le_trans (Nat.le_trans hb0.size hb1.size) hk.1, fun k hk => hk.2, fun k h1 h2 => by have := h1.2; have := h2.1; omega⟩

set_option maxRecDepth 100000 in
set_option maxHeartbeats 6400000 in
theorem alscript_walk (A0 : Option Addr) (n0 c0 : Nat) (z0 : List Int) (pg ms : Int) (A3 : Option Addr) (n3 c3 : Nat) (z3 : List Int) (w : World) (h0 : IsRow .u32 w A0 n0 c0 z0) (hpg : (Lit.int .u32 pg).wf = true) (hms : (Lit.int .u32 ms).wf = true) (h3 : IsRow .i64 w A3 n3 c3 z3) :
    Calls Try.prog 4 #[.slice A0 n0 c0, .int .u32 pg, .int .u32 ms, .slice A3 n3 c3] w fun e w' => e = .returned (.bool true) ∧ Below w.heap.size w w' := by
  obtain ⟨l, hrl, hc0, hcm0, hlt⟩ := row_nats h0
  have HL := Lib.hid hrl
  have H3 := Lib.hid h3.reads.1
  have hm0 : n0 ≤ maxLen := Nat.le_trans hc0 hcm0
  have hm3 : n3 ≤ maxLen := Nat.le_trans h3.reads.2.1 h3.reads.2.2.1
  have hwf := fun n hn => (h3.reads.2.2.2.2 n hn)
  have HWF := Lib.hid hwf
  unfold maxLen at hm0 hm3
  have hpb : 0 ≤ pg ∧ pg ≤ 4294967295 := by simpa [Lit.wf, IntKind.min, IntKind.max, IntKind.signed, IntKind.bits] using hpg
  have hmb : 0 ≤ ms ∧ ms ≤ 4294967295 := by simpa [Lit.wf, IntKind.min, IntKind.max, IntKind.signed, IntKind.bits] using hms
  obtain ⟨pages, rfl⟩ : ∃ p : Nat, pg = (p : Int) := ⟨pg.toNat, by omega⟩
  obtain ⟨most, rfl⟩ : ∃ p : Nat, ms = (p : Int) := ⟨ms.toNat, by omega⟩
  clear h0 h3 hrl hc0 hcm0 hlt hwf hpg hms
  by_cases g0 : 60 < n0
  · have gg : (60 : Int) < (n0 : Int) := by omega
    clear g0
    go_enter Try.func4, Try.ntmps4
    go_wp2_with fail
    refine (lives14_any w).mono ?_
    rintro e w1 ⟨rfl, hb⟩
    have HB := Lib.hid hb
    clear hb
    go_wp2_with fail
    go_ret
    exact ⟨rfl, HB.out⟩
  have gg0 : ¬ (60 : Int) < (n0 : Int) := by omega
  by_cases g1 : 100 < n3
  · have gg : (100 : Int) < (n3 : Int) := by omega
    clear g1
    go_enter Try.func4, Try.ntmps4
    go_wp2_with fail
    refine (lives14_any w).mono ?_
    rintro e w1 ⟨rfl, hb⟩
    have HB := Lib.hid hb
    clear hb
    go_wp2_with fail
    go_ret
    exact ⟨rfl, HB.out⟩
  have gg1 : ¬ (100 : Int) < (n3 : Int) := by omega
  go_enter Try.func4, Try.ntmps4
  go_wp2_with fail
  refine (lives14_any w).mono ?_
  rintro e w1 ⟨rfl, hb⟩
  have HB := Lib.hid hb
  clear hb
  have HOW := Lib.hid (ownU_any c0 ((HL.out.below HB.out).more HB.out.size) (by omega))
  go_wp2_with fail
  refine HOW.out.mono ?_
  rintro e w2 ⟨A1, c1, rfl, ho1, hb1⟩
  have HN1 := Lib.hid (anew_any c1 pages most (Reads.of_own ho1) (by omega))
  have HB2 := Lib.hid (HB.out.trans (hb1.mono HB.out.size))
  clear ho1 hb1 HOW HB
  go_wp2_with fail
  refine HN1.out.mono ?_
  rintro e w3 ⟨hb3, hcase⟩
  have HB3 := Lib.hid hb3
  have HN2 := Lib.hid (fnew_any (w := w3) c0 pages most ((HL.out.below (HB2.out.trans (hb3.mono HB2.out.size))).more (Nat.le_trans HB2.out.size hb3.size)) (by omega))
  clear hb3 HN1
  rcases hcase with ⟨hmay, g, rfl, ha⟩ | ⟨hmay, rfl⟩
  rotate_left
  · have HM := Lib.hid hmay
    clear hmay
    go_wp2_with fail
    refine HN2.out.mono ?_
    rintro e w4 ⟨hb4, ⟨hf, _⟩ | ⟨_, rfl⟩⟩
    · rw [HM.out] at hf; cases hf
    have HB4 := Lib.hid ((HB2.out.trans (HB3.out.mono HB2.out.size)).trans (hb4.mono (Nat.le_trans HB2.out.size HB3.out.size)))
    clear hb4
    go_wp2_with fail
    go_loop [13] (fun s13 => s13 = .int .i64 0) (fun s13 => 0)
    case atStart => rfl
    case round =>
      subst hrel
      by_cases hn30 : 0 < n3
      · have hn3i : (0 : Int) < (n3 : Int) := by omega
        go_wp2_with fail
        go_ret
        exact ⟨rfl, HB4.out⟩
      · obtain rfl : n3 = 0 := by omega
        go_wp2_with fail
        go_ret
        exact ⟨rfl, HB4.out⟩
  · have HM := Lib.hid hmay
    have HA := Lib.hid ha
    clear hmay ha
    go_wp2_with fail
    refine HN2.out.mono ?_
    rintro e w4 ⟨hb4, ⟨_, o, rfl, hr⟩ | ⟨hf, _⟩⟩
    rotate_left
    · rw [HM.out] at hf; cases hf
    have H : Hid (Held w w4 g (alNew l pages most) (RfIn o (alNew l pages most))) := Lib.hid (Held.madeRf HB2.out HB3.out HA.out hb4 hr)
    have HS0 : Hid ((alNew l pages most).all ≤ 60) := Lib.hid (by show l.length + 0 + 0 ≤ 60; have := ulen HL.out; omega)
    clear hb4 hr HA HN2 HB2 HB3 HM
    generalize hgen : alNew l pages most = S0 at H HS0
    clear hgen
    go_wp2_with fail
    go_loopw [13] (fun s13 wr => ∃ (i : Nat) (S : AlS), i ≤ n3 ∧ s13 = .int .i64 i ∧ Hid (S.all ≤ 60 + i) ∧ Hid (Held w wr g S (RfIn o S))) (fun s13 _ => n3 - (intOf s13).toNat)
    case atStart => exact ⟨0, S0, Nat.zero_le _, rfl, HS0, H⟩
    case round =>
      obtain ⟨i, S, hi, rfl, HAL, HH⟩ := hrel
      by_cases hlt : i < n3
      · obtain ⟨ad, z, hA, hab, hz, hc⟩ := int_at (H3.out.below HH.out.bel) hlt
        subst hA
        have HOK := Lib.hid HH.out.ok
        have hzw := HWF.out z (List.mem_of_getElem? hz)
        clear hz hzw
        have hwb : 0 ≤ IntKind.u32.wrap z ∧ IntKind.u32.wrap z < 4294967296 := by rw [IntKind.wrap_u32]; omega
        obtain ⟨q, hq⟩ : ∃ q : Nat, IntKind.u32.wrap z = (q : Int) := ⟨(IntKind.u32.wrap z).toNat, by omega⟩
        have hq32 : q < 4294967296 := by omega
        have HQ32 := Lib.hid hq32
        clear hwb hq32
        by_cases hneg : z < 0
        · as_aux_lemma =>
            have HT : Hid (∃ m y T, S.takes = (m, y, T)) := Lib.hid ⟨S.takes.1, S.takes.2.1, S.takes.2.2, rfl⟩
            obtain ⟨m, y, T, hT⟩ := HT.out
            have HTE := Lib.hid hT
            have HTA : Hid (T.all ≤ 60 + (i + 1)) := Lib.hid (by have h5 := S.take_all; rw [hT] at h5; have := HAL.out; show T.all ≤ _; have h6 : T.all ≤ S.all + 1 := h5; omega)
            clear hT HT
            go_wp2_with fail
            refine (htake (rest_rf _ _).st HH.out HTE.out).mono ?_
            rintro e wa ⟨rfl, h⟩
            have HH2 := Lib.hid h
            clear h
            go_wp2_with fail
            refine (htake2 HH2.out).mono ?_
            rintro e w5 ⟨rfl, h⟩
            rw [HTE.out] at h ⊢
            have HH3 : Hid (Held w w5 g T (RfIn o T)) := Lib.hid h
            have HM32 : Hid (m < 4294967296) := Lib.hid (by
              have h5 := AlS.takes_ok HOK.out
              have h6 := HTE.out
              have h7 := HOK.out.small
              unfold AlS.takes at h6
              split at h6
              · rename_i nn rr hnn
                have := (HOK.out.i1 nn (by rw [hnn]; simp)).2
                injection h6 with h6
                omega
              · split at h6
                · injection h6 with h6; omega
                · injection h6 with h6; omega)
            clear h
            go_wp2_with fail
            obtain ⟨F, G, hh⟩ := HH3.out
            obtain ⟨Ga, hsub, Q1, r1, d1, Q2, r2, d2, Q3, r3, d3, hrf⟩ := hh.rest
            have HAL5 := Lib.hid hh.al
            have HRF5 := Lib.hid hrf
            have HAP : Hid (T.now.length + T.gave.length ≤ 1000000 ∧ T.took.length ≤ 1000000) := Lib.hid (by have h5 := HTA.out; unfold AlS.all at h5; omega)
            have HL2 := Lib.hid (ulen hrf.r2.1)
            have HFL : Hid (T.frees.length ≤ 1000000) := Lib.hid (by rw [AlS.frees_len hh.al.ok]; exact HAP.out.1)
            have hol := hrf.Flt _ hrf.Fo
            have x0 := hrf.blk
            have b0 := Lib.hid ((Below.refl w5.heap.size w5).drew)
            have s0 := rf_two x0
            clear hh hrf hsub
            go_region_held3 (fun w' => w'.cell? ⟨o, 1, none⟩ = some (.slice Q2 r2 d2) ∧ w'.cell? ⟨o, 3, none⟩ = some (.int .u32 T.count))
              (first | exact s9 | exact s8 | exact s7 | exact s6 | exact s5 | exact s4 | exact s3 | exact s2 | exact s1 | exact s0)
              (first
                | (go_at_call 16
                   have hq1 := aleft_any (HAL5.out.new b0.out)
                   (with_reducible refine hq1.mono ?_)
                   rintro e u1 ⟨rfl, hb⟩
                   have b1 := Lib.hid (b0.out.trans (hb.mono b0.out.size))
                   have s1 := rf_two (HRF5.out.blk.below b1.out hol)
                   clear hb hq1)
                | (go_at_call 25
                   have hq2 := fleft_any (show Rf u1 Ga o T from ⟨_, _, _, _, _, _, _, _, _, HRF5.out.new b1.out⟩)
                   (with_reducible refine hq2.mono ?_)
                   rintro e u2 ⟨rfl, hb⟩
                   have b2 := Lib.hid (b1.out.trans (hb.mono b1.out.size))
                   have s2 := rf_two (HRF5.out.blk.below b2.out hol)
                   clear hb hq2)
                | (go_at_call 20
                   have hq3 := apages_any (HAL5.out.new b2.out)
                   (with_reducible refine hq3.mono ?_)
                   rintro e u3 ⟨rfl, hb3⟩
                   have b3 : Hid (Below w5.heap.size w5 u3) := Lib.hid (by rw [← hb3]; exact b2.out)
                   have s3 := rf_two (HRF5.out.blk.below b3.out hol)
                   clear hb3 hq3)
                | (go_at_call 15
                   have hq4 := amine_any (HAL5.out.new b3.out) m HM32.out
                   (with_reducible refine hq4.mono ?_)
                   rintro e u4 ⟨rfl, hb⟩
                   have b4 := Lib.hid (b3.out.trans (hb.mono b3.out.size))
                   have s4 := rf_two (HRF5.out.blk.below b4.out hol)
                   clear hb hq4)
                | (go_at_call 26
                   have hq5 := fmine_any (show Rf u4 Ga o T from ⟨_, _, _, _, _, _, _, _, _, HRF5.out.new b4.out⟩) m
                   (with_reducible refine hq5.mono ?_)
                   rintro e u5 ⟨rfl, qq, hb5⟩
                   have b5 : Hid (Below w5.heap.size w5 u5) := Lib.hid (by rw [hb5]; exact below_drewN b4.out qq)
                   have s5 := rf_two (HRF5.out.blk.below b5.out hol)
                   clear hb5 hq5)
                | (go_at_call 18
                   have hq6 := afree_any (HAL5.out.new b5.out) HAP.out.1
                   (with_reducible refine hq6.mono ?_)
                   rintro e u6 ⟨X6, x6, y6, rfl, ho6, hb⟩
                   have HO6 := Lib.hid (Reads.of_own ho6)
                   have HN6 := Lib.hid (own_len ho6)
                   have b6 := Lib.hid (b5.out.trans (hb.mono b5.out.size))
                   have s6 := rf_two (HRF5.out.blk.below b6.out hol)
                   clear hb hq6 ho6)
                | (go_at_call 27
                   have hq7 := ffree_any (show Rf u6 Ga o T from ⟨_, _, _, _, _, _, _, _, _, HRF5.out.new b6.out⟩)
                   (with_reducible refine hq7.mono ?_)
                   rintro e u7 ⟨X7, x7, y7, rfl, ho7, hb⟩
                   obtain rfl : x6 = x7 := HN6.out.symm.trans (own_len ho7)
                   have HO7 := Lib.hid (Reads.of_own ho7)
                   have HO67 := Lib.hid (HO6.out.below hb)
                   have b7 := Lib.hid (b6.out.trans (hb.mono b6.out.size))
                   have s7 := rf_two (HRF5.out.blk.below b7.out hol)
                   clear hb hq7 ho7)
                | (go_at_call 19
                   have hq9 := ataken_any (HAL5.out.new b8.out) HAP.out.2
                   (with_reducible refine hq9.mono ?_)
                   rintro e u9 ⟨X9, x9, y9, rfl, ho9, hb⟩
                   obtain rfl : r2 = x9 := HL2.out.symm.trans (own_len ho9)
                   have HO9 := Lib.hid (Reads.of_own ho9)
                   have b9 := Lib.hid (b8.out.trans (hb.mono b8.out.size))
                   have s9 := rf_two (HRF5.out.blk.below b9.out hol)
                   clear hb hq9 ho9)
                | (go_at_call 17
                   have hqa := sameU_yes X9 r2 y9 Q2 d2 T.took u9 HO9.out (HRF5.out.new b9.out).r2.1 (by unfold maxLen; have := HAP.out.2; have := HL2.out; omega)
                   (with_reducible refine hqa.mono ?_)
                   rintro e ua ⟨rfl, qa, hba⟩
                   have ba : Hid (Below w5.heap.size w5 ua) := Lib.hid (by rw [hba]; exact below_drewN b9.out qa)
                   have s9 := rf_two (HRF5.out.blk.below ba.out hol)
                   clear hba hqa)
                | (go_at_call 17
                   have hq8 := sameU_yes X6 x6 y6 X7 y7 T.frees u7 HO67.out HO7.out (by unfold maxLen; have := HN6.out; have := HFL.out; omega)
                   (with_reducible refine hq8.mono ?_)
                   rintro e u8 ⟨rfl, q8, hb8⟩
                   have b8 : Hid (Below w5.heap.size w5 u8) := Lib.hid (by rw [hb8]; exact below_drewN b7.out q8)
                   have s8 := rf_two (HRF5.out.blk.below b8.out hol)
                   clear hb8 hq8))
            all_goals
              go_wp2_with fail
              go_roundw
              case rel => exact ⟨i + 1, T, by omega, by go_num, HTA, Lib.hid (HH3.out.new (rest_rf _ _).st ba.out)⟩
              case measure => simp [intOf]; omega
        · as_aux_lemma =>
            have hneg2 : ¬ z < 0 := hneg
            have HT : Hid (∃ y T, S.gives q = (y, T)) := Lib.hid ⟨(S.gives q).1, (S.gives q).2, rfl⟩
            obtain ⟨y, T, hT⟩ := HT.out
            have HTE := Lib.hid hT
            have HTA : Hid (T.all ≤ 60 + (i + 1)) := Lib.hid (by have h5 := AlS.give_all HOK.out q; rw [hT] at h5; have := HAL.out; show T.all ≤ _; have h6 : T.all ≤ S.all + 1 := h5; omega)
            clear hT HT hneg
            go_wp2_with fail
            refine (hgive (rest_rf _ _).st HH.out HTE.out).mono ?_
            rintro e wa ⟨rfl, h⟩
            have HH2 := Lib.hid h
            clear h
            go_wp2_with fail
            refine (hgive2 HH2.out q).mono ?_
            rintro e w5 ⟨rfl, h⟩
            rw [HTE.out] at h ⊢
            have HH3 : Hid (Held w w5 g T (RfIn o T)) := Lib.hid h
            have HM32 := HQ32
            clear h
            go_wp2_with fail
            obtain ⟨F, G, hh⟩ := HH3.out
            obtain ⟨Ga, hsub, Q1, r1, d1, Q2, r2, d2, Q3, r3, d3, hrf⟩ := hh.rest
            have HAL5 := Lib.hid hh.al
            have HRF5 := Lib.hid hrf
            have HAP : Hid (T.now.length + T.gave.length ≤ 1000000 ∧ T.took.length ≤ 1000000) := Lib.hid (by have h5 := HTA.out; unfold AlS.all at h5; omega)
            have HL2 := Lib.hid (ulen hrf.r2.1)
            have HFL : Hid (T.frees.length ≤ 1000000) := Lib.hid (by rw [AlS.frees_len hh.al.ok]; exact HAP.out.1)
            have hol := hrf.Flt _ hrf.Fo
            have x0 := hrf.blk
            have b0 := Lib.hid ((Below.refl w5.heap.size w5).drew)
            have s0 := rf_two x0
            clear hh hrf hsub
            go_region_held3 (fun w' => w'.cell? ⟨o, 1, none⟩ = some (.slice Q2 r2 d2) ∧ w'.cell? ⟨o, 3, none⟩ = some (.int .u32 T.count))
              (first | exact s9 | exact s8 | exact s7 | exact s6 | exact s5 | exact s4 | exact s3 | exact s2 | exact s1 | exact s0)
              (first
                | (go_at_call 16
                   have hq1 := aleft_any (HAL5.out.new b0.out)
                   (with_reducible refine hq1.mono ?_)
                   rintro e u1 ⟨rfl, hb⟩
                   have b1 := Lib.hid (b0.out.trans (hb.mono b0.out.size))
                   have s1 := rf_two (HRF5.out.blk.below b1.out hol)
                   clear hb hq1)
                | (go_at_call 25
                   have hq2 := fleft_any (show Rf u1 Ga o T from ⟨_, _, _, _, _, _, _, _, _, HRF5.out.new b1.out⟩)
                   (with_reducible refine hq2.mono ?_)
                   rintro e u2 ⟨rfl, hb⟩
                   have b2 := Lib.hid (b1.out.trans (hb.mono b1.out.size))
                   have s2 := rf_two (HRF5.out.blk.below b2.out hol)
                   clear hb hq2)
                | (go_at_call 20
                   have hq3 := apages_any (HAL5.out.new b2.out)
                   (with_reducible refine hq3.mono ?_)
                   rintro e u3 ⟨rfl, hb3⟩
                   have b3 : Hid (Below w5.heap.size w5 u3) := Lib.hid (by rw [← hb3]; exact b2.out)
                   have s3 := rf_two (HRF5.out.blk.below b3.out hol)
                   clear hb3 hq3)
                | (go_at_call 15
                   have hq4 := amine_any (HAL5.out.new b3.out) q HM32.out
                   (with_reducible refine hq4.mono ?_)
                   rintro e u4 ⟨rfl, hb⟩
                   have b4 := Lib.hid (b3.out.trans (hb.mono b3.out.size))
                   have s4 := rf_two (HRF5.out.blk.below b4.out hol)
                   clear hb hq4)
                | (go_at_call 26
                   have hq5 := fmine_any (show Rf u4 Ga o T from ⟨_, _, _, _, _, _, _, _, _, HRF5.out.new b4.out⟩) q
                   (with_reducible refine hq5.mono ?_)
                   rintro e u5 ⟨rfl, qq, hb5⟩
                   have b5 : Hid (Below w5.heap.size w5 u5) := Lib.hid (by rw [hb5]; exact below_drewN b4.out qq)
                   have s5 := rf_two (HRF5.out.blk.below b5.out hol)
                   clear hb5 hq5)
                | (go_at_call 18
                   have hq6 := afree_any (HAL5.out.new b5.out) HAP.out.1
                   (with_reducible refine hq6.mono ?_)
                   rintro e u6 ⟨X6, x6, y6, rfl, ho6, hb⟩
                   have HO6 := Lib.hid (Reads.of_own ho6)
                   have HN6 := Lib.hid (own_len ho6)
                   have b6 := Lib.hid (b5.out.trans (hb.mono b5.out.size))
                   have s6 := rf_two (HRF5.out.blk.below b6.out hol)
                   clear hb hq6 ho6)
                | (go_at_call 27
                   have hq7 := ffree_any (show Rf u6 Ga o T from ⟨_, _, _, _, _, _, _, _, _, HRF5.out.new b6.out⟩)
                   (with_reducible refine hq7.mono ?_)
                   rintro e u7 ⟨X7, x7, y7, rfl, ho7, hb⟩
                   obtain rfl : x6 = x7 := HN6.out.symm.trans (own_len ho7)
                   have HO7 := Lib.hid (Reads.of_own ho7)
                   have HO67 := Lib.hid (HO6.out.below hb)
                   have b7 := Lib.hid (b6.out.trans (hb.mono b6.out.size))
                   have s7 := rf_two (HRF5.out.blk.below b7.out hol)
                   clear hb hq7 ho7)
                | (go_at_call 19
                   have hq9 := ataken_any (HAL5.out.new b8.out) HAP.out.2
                   (with_reducible refine hq9.mono ?_)
                   rintro e u9 ⟨X9, x9, y9, rfl, ho9, hb⟩
                   obtain rfl : r2 = x9 := HL2.out.symm.trans (own_len ho9)
                   have HO9 := Lib.hid (Reads.of_own ho9)
                   have b9 := Lib.hid (b8.out.trans (hb.mono b8.out.size))
                   have s9 := rf_two (HRF5.out.blk.below b9.out hol)
                   clear hb hq9 ho9)
                | (go_at_call 17
                   have hqa := sameU_yes X9 r2 y9 Q2 d2 T.took u9 HO9.out (HRF5.out.new b9.out).r2.1 (by unfold maxLen; have := HAP.out.2; have := HL2.out; omega)
                   (with_reducible refine hqa.mono ?_)
                   rintro e ua ⟨rfl, qa, hba⟩
                   have ba : Hid (Below w5.heap.size w5 ua) := Lib.hid (by rw [hba]; exact below_drewN b9.out qa)
                   have s9 := rf_two (HRF5.out.blk.below ba.out hol)
                   clear hba hqa)
                | (go_at_call 17
                   have hq8 := sameU_yes X6 x6 y6 X7 y7 T.frees u7 HO67.out HO7.out (by unfold maxLen; have := HN6.out; have := HFL.out; omega)
                   (with_reducible refine hq8.mono ?_)
                   rintro e u8 ⟨rfl, q8, hb8⟩
                   have b8 : Hid (Below w5.heap.size w5 u8) := Lib.hid (by rw [hb8]; exact below_drewN b7.out q8)
                   have s8 := rf_two (HRF5.out.blk.below b8.out hol)
                   clear hb8 hq8))
            all_goals
              go_wp2_with fail
              go_roundw
              case rel => exact ⟨i + 1, T, by omega, by go_num, HTA, Lib.hid (HH3.out.new (rest_rf _ _).st ba.out)⟩
              case measure => simp [intOf]; omega
      · obtain rfl : i = n3 := by omega
        go_wp2_with fail
        go_ret
        exact ⟨rfl, HH.out.bel⟩
end Go.Proofs.Ytofbglgdmabafaa

