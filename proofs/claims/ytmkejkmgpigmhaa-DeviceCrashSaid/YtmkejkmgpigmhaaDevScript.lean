/-
  The walk of the statement DeviceScript (a device answers as the reference does, whatever is called): from every start, at every argument, it returns true and changes no block that was there before.
-/
import Derived.Test.YtmkejkmgpigmhaaDevAny
import Derived.Test.YtmkejkmgpigmhaaDevOpen
namespace Go.Proofs.Ytmkejkmgpigmhaa
open Go.RowKit
open Go.Lib hiding intOf
set_option linter.unusedVariables false
set_option linter.unusedSimpArgs false
attribute [local go_sem ↓] Go.wp_at_zero Go.wp_at_succ

theorem Acts.more {w : World} {B B' n : Nat} {A : Option Addr} {l : List Act3} (h : Acts w B A n l) (hB : B ≤ B') : Acts w B' A n l :=
  ⟨h.1, fun a ha => { h.2.1 a ha with keep := (h.2.1 a ha).keep.more hB }, fun hn => by
    obtain ⟨ad, e, h1, h2⟩ := h.2.2 hn
    exact ⟨ad, e, by omega, h2⟩⟩
/-- The device and the reference behind k calls. -/
def ScriptAt (w : World) (g o k : Nat) (wr : World) : Prop :=
  ∃ F R S, Both wr F R g o S ∧ S.ops ≤ k ∧ (∀ j, F j → w.heap.size ≤ j) ∧ (∀ j, R j → w.heap.size ≤ j) ∧ Below w.heap.size w wr
/-- Behind a step of an open order what is to hold may be weakened. -/
theorem wpAnyH_mono {P : Program} {md : Region.Mode} {ops : Array Oper} {Q : Exit → Act → World → Prop} {S S' : World → Prop} (hS : ∀ w, S' w → S w) :
    ∀ (fuel : Nat) (listed : Array Bool) (a : Act) (w : World), wpAnyH P md ops Q S' fuel listed a w → wpAnyH P md ops Q S fuel listed a w
  | 0, _, _, _, h => h
  | fuel + 1, _, _, _, h => ⟨h.1, fun i hi => wpOp_mono (fun a' w' h' => ⟨hS _ h'.1, wpAnyH_mono hS fuel _ a' w' h'.2⟩) (h.2 i hi)⟩

theorem wpAnyH_takeL {P : Program} {md : Region.Mode} {l : List Oper} {Q : Exit → Act → World → Prop} {S : World → Prop} {i : Nat} {oi : Oper} {v : Value} {fuel : Nat} {listed : Array Bool} {a : Act} {w : World} (hi : l[i]? = some oi)
    (hs : Region.noSelect l.toArray = true) (hf : Region.free md l.toArray listed i = true) (hr : (Region.ready md l.toArray listed).contains i = true)
    (hQ : ∀ c a w, Q (.panic c) (a.put oi.dst v) w → Q (.panic c) a w) (hy : YieldsIf P l.toArray S oi v a) (hS : S w)
    (h : wpAnyH P md l.toArray Q S fuel (listed.setIfInBounds i true) (a.put oi.dst v) w) : wpAnyH P md l.toArray Q S (fuel + 1) listed a w :=
  wpAnyH_take (by simpa using hi) hs hf hr hQ hy hS h
theorem AllReadyH.consL {P : Program} {md : Region.Mode} {l : List Oper} {Q : Exit → Act → World → Prop} {S : World → Prop} {fuel : Nat} {listed : Array Bool} {a : Act} {w : World} {i : Nat} {o : Oper} {rs : List Nat} (ho : l[i]? = some o)
    (h : ∀ K' : Act → World → Prop, Shut (∀ a w, S w → (S w → wpAnyH P md l.toArray Q S fuel (listed.setIfInBounds i true) a w) → K' a w) → if Region.wanted o (yielded l.toArray a.tmps) = true then Oper.wp P o a w K' Q else K' (a.put o.dst undef) w)
    (hs : AllReadyH P md l.toArray Q S fuel listed a w rs) : AllReadyH P md l.toArray Q S fuel listed a w (i :: rs) :=
  AllReadyH.cons (by simpa using ho) h hs

set_option maxHeartbeats 6400000 in
set_option maxRecDepth 100000 in
theorem script_walk (z cap : Int) (s : ByteArray) (A : Option Addr) (n c : Nat) (l : List Act3) (w : World) (hz : (Lit.int .i64 z).wf = true) (hc : (Lit.int .i64 cap).wf = true) (hs : s.size ≤ maxLen) (hl : Acts w w.heap.size A n l) (hn : n ≤ maxLen) :
    Calls Try.prog 4 #[.int .i64 z, .int .i64 cap, .string s, .slice A n c] w fun e w' => e = .returned (.bool true) ∧ Below w.heap.size w w' := by
  have HL := Lib.hid hl
  have HN := Lib.hid hn
  have HSZ := Lib.hid hs
  clear hz hc hl hn hs
  go_enter Try.func4, Try.ntmps4
  go_wp2_with fail
  refine (lives_any w).mono ?_
  rintro e w1 ⟨rfl, hb1⟩
  have hli := light_any c s ((HL.out.below hb1).more hb1.size) HN.out
  go_wp2_with fail
  refine hli.mono ?_
  rintro e w2 ⟨b, rfl, hbt, hb2⟩
  have hb12 : Below w.heap.size w w2 := hb1.trans (hb2.mono hb1.size)
  have HBT := Lib.hid hbt
  have HB := Lib.hid hb12
  clear hbt hb12 hb1 hb2 hli
  cases b with
  | false =>
    go_wp2_with fail
    go_ret
    exact ⟨rfl, HB.out⟩
  | true =>
    obtain ⟨hs1, hn1⟩ := HBT.out rfl
    by_cases hg : 20 < cap ∧ cap ≤ 1048576
    · obtain ⟨g1, g2⟩ := hg
      go_wp2_with fail
      go_ret
      exact ⟨rfl, HB.out⟩
    obtain ⟨gd, hgd⟩ : ∃ gd, gd = goodSize z := ⟨_, rfl⟩
    have dg := fun W => dgood_any z W
    have rg := fun W => rgood_any z W
    rw [← hgd] at dg rg
    have HGD := Lib.hid hgd
    clear hgd HBT
    have hnb : 20 < cap → ¬ cap ≤ 1048576 := fun h1 h2 => hg ⟨h1, h2⟩
    have HNB := Lib.hid hnb
    clear hg hnb
    by_cases hbad : gd = false ∨ cap < 2 ∨ 1048576 < cap ∨ (0 ≤ cap ∧ cap < ((s.size / 128 : Nat) : Int))
    · obtain ⟨zz, er, hzz, dn, rn⟩ : ∃ (zz er : Int), Hid (zz = if gd then 128 else z) ∧ (∀ W : World, Calls Try.prog 11 #[.int .i64 zz, .int .i64 cap, .string s] W fun x w' => x = .returned (.tuple #[.pointer none, .int .i64 er]) ∧ W = w') ∧ (∀ W : World, Calls Try.prog 28 #[.int .i64 zz, .int .i64 cap, .string s] W fun x w' => x = .returned (.tuple #[.pointer none, .int .i64 er]) ∧ W = w') := by
        cases gd with
        | false => exact ⟨z, 2, Lib.hid rfl, fun W => dnew_bad z cap s W HGD.out.symm, fun W => rnew_bad z cap s W HGD.out.symm⟩
        | true =>
          by_cases hcc : cap < 2 ∨ 1048576 < cap
          · exact ⟨128, 2, Lib.hid rfl, fun W => dnew_cap 128 cap s W (by decide) hcc, fun W => rnew_cap 128 cap s W (by decide) hcc⟩
          · obtain ⟨C, hC⟩ : ∃ C : Nat, cap = (C : Int) := ⟨cap.toNat, by omega⟩
            subst hC
            have hbad' : C < s.size / 128 := by
              rcases hbad with h | h | h | h
              · cases h
              · omega
              · omega
              · omega
            exact ⟨128, 9, Lib.hid rfl, fun W => dnew_full 128 C s W (by decide) (by omega) (by omega) HSZ.out hbad', fun W => rnew_full C s W (by omega) (by omega) HSZ.out hbad'⟩
      clear hbad
      cases gd
      all_goals
        have hzz' := hzz.out
        simp only [if_true, if_false, Bool.false_eq_true] at hzz'
        subst hzz'
        by_cases h20 : 20 < cap
      all_goals
        first | (have g2 := HNB.out h20) | skip
        clear HNB hzz
        go_wp2_with (first | (go_at_call 25; refine (dg _).mono ?_; rintro e w' ⟨rfl, rfl⟩) | (go_at_call 27; refine (rg _).mono ?_; rintro e w' ⟨rfl, rfl⟩) | (go_at_call 11; refine (dn _).mono ?_; rintro e w' ⟨rfl, rfl⟩) | (go_at_call 28; refine (rn _).mono ?_; rintro e w' ⟨rfl, rfl⟩))
        go_loopw [13] (fun i wr => i = .int .i64 0 ∧ Hid (Below w.heap.size w wr)) (fun _ _ => 0)
        case atStart => exact ⟨rfl, HB⟩
        case round =>
          obtain ⟨rfl, HB2⟩ := hrel
          by_cases hn0 : 0 < n
          all_goals
            go_wp2_with fail
            go_ret
            exact ⟨rfl, HB2.out⟩
    · have hgd1 : gd = true := by
        cases gd with
        | false => exact absurd (.inl rfl) hbad
        | true => rfl
      subst hgd1
      obtain ⟨C, hC⟩ : ∃ C : Nat, cap = (C : Int) := ⟨cap.toNat, by omega⟩
      subst hC
      have h20 : ¬ (20 : Int) < C := fun h => by have := HNB.out h; omega
      have hC2 : 2 ≤ C := by omega
      have hC20 : C ≤ 20 := by omega
      have hfit : s.size / 128 ≤ C := by omega
      have dn := dnew_ok 128 C s w2 (by decide) hC2 (by omega) hfit
      have HFIT := Lib.hid hfit
      clear hbad HNB HGD hfit
      go_wp2_with (first | (go_at_call 25; refine (dg _).mono ?_; rintro e w' ⟨rfl, rfl⟩) | (go_at_call 27; refine (rg _).mono ?_; rintro e w' ⟨rfl, rfl⟩))
      refine dn.mono ?_
      rintro e w3 ⟨g, rfl, hd3, hb3⟩
      go_wp2_with fail
      refine (rnew_ok C s w3 hC2 (by omega) HFIT.out).mono ?_
      rintro e w4 ⟨o, rfl, hr4, hog, hb4⟩
      have hst : ScriptAt w g o 0 w4 := by
        have z1 := HB.out.size
        have z2 := hb3.size
        refine ⟨_, _, _, ⟨hd3.new hb4, hr4, ?_, ⟨rfl, rfl, by show -9223372036854775808 ≤ (-1 : Int); decide, by show (-1 : Int) ≤ 9223372036854775807; decide, by show 0 ≤ 4294967296; decide⟩⟩, Nat.le_refl _, ?_, ?_, (HB.out.trans (hb3.mono z1)).trans (hb4.mono (by omega))⟩
        · rintro k ⟨_, h1⟩ h2
          omega
        · rintro k ⟨h1, _⟩
          omega
        · rintro k h1
          omega
      have HST := Lib.hid hst
      clear hst hd3 hb3 hr4 hog hb4 dn dg rg HB HFIT
      go_wp2_with fail
      go_loopw [13] (fun i wr => ∃ k : Nat, k ≤ n ∧ i = .int .i64 k ∧ Hid (ScriptAt w g o k wr)) (fun i _ => n - (RowKit.intOf i).toNat)
      case atStart => exact ⟨0, Nat.zero_le _, rfl, HST⟩
      case round =>
        clear HST
        obtain ⟨k, hk, rfl, HST⟩ := hrel
        obtain ⟨F, R, S, hbo, hops, hF, hR, hbel⟩ := HST.out
        by_cases hlt : k < n
        · obtain ⟨ad, a, rfl, hab, _, hat, hok⟩ := ((HL.out.below hbel)).at_ hlt
          obtain ⟨c0, c1, c2, c3, c4⟩ := hat
          have hda := does_any (hbo.new (Below.refl _ _).drew) (by omega) a (B := w.heap.size) hbel.size hF (hok.below (B := w.heap.size) (w' := wr.drew) (Below.refl _ _).drew)
          obtain ⟨NS, hNS⟩ : ∃ NS, NS = nextS S a := ⟨_, rfl⟩
          rw [← hNS] at hda
          have HNS := Lib.hid hNS
          clear hNS
          have b0 : (0 : Int) ≤ k := by omega
          have b1 : (k : Int) < n := by omega
          go_wp2_with fail
          refine wp_region_held_drew (S := fun _ => True) (by kernel_rfl) trivial (fun _ => ?_)
          refine wpAnyH_takeL (i := 0) (v := ?_) rfl (by kernel_rfl) (by kernel_rfl) (by kernel_rfl) (fun _ _ _ h => h) (Or.inl ⟨by rfl, ?_⟩) (by first | trivial | assumption) ?_
          rotate_left
          · intro wz hSz; (try dsimp only at hSz); go_simp; (try with_reducible rfl)
          try simp only [Act.put, List.setIfInBounds_toArray, List.set_cons_zero, List.set_cons_succ]
          refine wpAnyH_takeL (i := 1) (v := ?_) rfl (by kernel_rfl) (by kernel_rfl) (by kernel_rfl) (fun _ _ _ h => h) (Or.inl ⟨by rfl, ?_⟩) (by first | trivial | assumption) ?_
          rotate_left
          · intro wz hSz; (try dsimp only at hSz); go_simp; (try with_reducible rfl)
          try simp only [Act.put, List.setIfInBounds_toArray, List.set_cons_zero, List.set_cons_succ]
          refine wpAnyH_takeL (i := 2) (v := ?_) rfl (by kernel_rfl) (by kernel_rfl) (by kernel_rfl) (fun _ _ _ h => h) (Or.inl ⟨by rfl, ?_⟩) (by first | trivial | assumption) ?_
          rotate_left
          · intro wz hSz; (try dsimp only at hSz); go_simp; (try with_reducible rfl)
          try simp only [Act.put, List.setIfInBounds_toArray, List.set_cons_zero, List.set_cons_succ]
          refine wpAnyH_takeL (i := 3) (v := ?_) rfl (by kernel_rfl) (by kernel_rfl) (by kernel_rfl) (fun _ _ _ h => h) (Or.inl ⟨by rfl, ?_⟩) (by first | trivial | assumption) ?_
          rotate_left
          · intro wz hSz; (try dsimp only at hSz); go_simp; (try with_reducible rfl)
          try simp only [Act.put, List.setIfInBounds_toArray, List.set_cons_zero, List.set_cons_succ]
          refine wpAnyH_takeL (i := 4) (v := ?_) rfl (by kernel_rfl) (by kernel_rfl) (by kernel_rfl) (fun _ _ _ h => h) (Or.inl ⟨by rfl, ?_⟩) (by first | trivial | assumption) ?_
          rotate_left
          · intro wz hSz; (try dsimp only at hSz); go_simp; (try with_reducible rfl)
          try simp only [Act.put, List.setIfInBounds_toArray, List.set_cons_zero, List.set_cons_succ]
          refine wpAnyH_ready (rs := [5]) (by kernel_rfl) (by simp) ?_
          refine AllReadyH.consL rfl (fun K hK => ?_) AllReadyH.nil
          go_simp
          refine hK.out _ _ (trivial) (fun hHeld => ?_)
          clear hK K
          try simp only [Act.put, List.setIfInBounds_toArray, List.set_cons_zero, List.set_cons_succ]
          refine wpAnyH_ready (rs := [6]) (by kernel_rfl) (by simp) ?_
          refine AllReadyH.consL rfl (fun K hK => ?_) AllReadyH.nil
          go_simp
          refine hda.mono ?_
          rintro e w5 ⟨rfl, hth⟩
          refine hK.out _ _ (trivial) (fun hHeld => ?_)
          clear hK K
          try simp only [Act.put, List.setIfInBounds_toArray, List.set_cons_zero, List.set_cons_succ]
          obtain ⟨F', R', hbo', hF', hR', hkept⟩ := hth
          obtain ⟨D, I, A', n', c', hra⟩ := hbo'.ref
          obtain ⟨_, _, r2, r3, r4, _, r6⟩ := ref_cells hra.blk
          have hol : o < w5.heap.size := hra.blk.lt
          have hIm := image_is hbo'.dev hra.img.symm
          have HRA := Lib.hid hra
          have HBO := Lib.hid hbo'
          have HKP := Lib.hid hkept
          have HFF := Lib.hid hF'
          have HRR := Lib.hid hR'
          clear hda hra hbo' c0 c1 c2 c3 c4 hkept hF' hR'
          refine wpAnyH_mono (S' := fun w' => w'.cell? ⟨o, 2, none⟩ = some (.string D) ∧ w'.cell? ⟨o, 3, none⟩ = some (.slice A' n' c') ∧ w'.cell? ⟨o, 4, none⟩ = some (.string I) ∧ w'.cell? ⟨o, 6, none⟩ = some (.int .i64 NS.ops)) (fun _ _ => trivial) _ _ _ _ ?_
          replace hHeld := And.intro r2 (And.intro r3 (And.intro r4 r6))
          refine wpAnyH_takeL (i := 7) (v := ?_) rfl (by kernel_rfl) (by kernel_rfl) (by kernel_rfl) (fun _ _ _ h => h) (Or.inl ⟨by rfl, ?_⟩) (by first | trivial | assumption) ?_
          rotate_left
          · intro wz hSz; (try dsimp only at hSz); go_simp; (try with_reducible rfl)
          try simp only [Act.put, List.setIfInBounds_toArray, List.set_cons_zero, List.set_cons_succ]
          refine wpAnyH_takeL (i := 8) (v := ?_) rfl (by kernel_rfl) (by kernel_rfl) (by kernel_rfl) (fun _ _ _ h => h) (Or.inl ⟨by rfl, ?_⟩) (by first | trivial | assumption) ?_
          rotate_left
          · intro wz hSz; (try dsimp only at hSz); go_simp; (try with_reducible rfl)
          try simp only [Act.put, List.setIfInBounds_toArray, List.set_cons_zero, List.set_cons_succ]
          refine wpAnyH_takeL (i := 9) (v := ?_) rfl (by kernel_rfl) (by kernel_rfl) (by kernel_rfl) (fun _ _ _ h => h) (Or.inl ⟨by rfl, ?_⟩) (by first | trivial | assumption) ?_
          rotate_left
          · intro wz hSz; (try dsimp only at hSz); go_simp; (try with_reducible rfl)
          try simp only [Act.put, List.setIfInBounds_toArray, List.set_cons_zero, List.set_cons_succ]
          refine wpAnyH_takeL (i := 11) (v := ?_) rfl (by kernel_rfl) (by kernel_rfl) (by kernel_rfl) (fun _ _ _ h => h) (Or.inl ⟨by rfl, ?_⟩) (by first | trivial | assumption) ?_
          rotate_left
          · intro wz hSz; (try dsimp only at hSz); go_simp; (try with_reducible rfl)
          try simp only [Act.put, List.setIfInBounds_toArray, List.set_cons_zero, List.set_cons_succ]
          refine wpAnyH_takeL (i := 12) (v := ?_) rfl (by kernel_rfl) (by kernel_rfl) (by kernel_rfl) (fun _ _ _ h => h) (Or.inl ⟨by rfl, ?_⟩) (by first | trivial | assumption) ?_
          rotate_left
          · intro wz hSz; (try dsimp only at hSz); go_simp; (try with_reducible rfl)
          try simp only [Act.put, List.setIfInBounds_toArray, List.set_cons_zero, List.set_cons_succ]
          refine wpAnyH_takeL (i := 13) (v := ?_) rfl (by kernel_rfl) (by kernel_rfl) (by kernel_rfl) (fun _ _ _ h => h) (Or.inl ⟨by rfl, ?_⟩) (by first | trivial | assumption) ?_
          rotate_left
          · intro wz hSz; (try dsimp only at hSz); go_simp; (try with_reducible rfl)
          try simp only [Act.put, List.setIfInBounds_toArray, List.set_cons_zero, List.set_cons_succ]
          refine wpAnyH_takeL (i := 14) (v := ?_) rfl (by kernel_rfl) (by kernel_rfl) (by kernel_rfl) (fun _ _ _ h => h) (Or.inl ⟨by rfl, ?_⟩) (by first | trivial | assumption) ?_
          rotate_left
          · intro wz hSz; (try dsimp only at hSz); go_simp; (try with_reducible rfl)
          try simp only [Act.put, List.setIfInBounds_toArray, List.set_cons_zero, List.set_cons_succ]
          refine wpAnyH_ready (rs := [10]) (by kernel_rfl) (by simp) ?_
          refine AllReadyH.consL rfl (fun K hK => ?_) AllReadyH.nil
          go_simp
          refine hIm.mono ?_
          rintro e w6 ⟨rfl, hb6⟩
          have s2 := (hb6.cell (p := ⟨o, 2, none⟩) hol).trans r2
          have s3 := (hb6.cell (p := ⟨o, 3, none⟩) hol).trans r3
          have s4 := (hb6.cell (p := ⟨o, 4, none⟩) hol).trans r4
          have s6 := (hb6.cell (p := ⟨o, 6, none⟩) hol).trans r6
          refine hK.out _ _ (⟨s2, s3, s4, s6⟩) (fun hHeld => ?_)
          clear hK K
          try simp only [Act.put, List.setIfInBounds_toArray, List.set_cons_zero, List.set_cons_succ]
          have hDu := durable_is (HBO.out.dev.new hb6) HRA.out.dur.symm
          clear hIm
          refine wpAnyH_takeL (i := 15) (v := ?_) rfl (by kernel_rfl) (by kernel_rfl) (by kernel_rfl) (fun _ _ _ h => h) (Or.inl ⟨by rfl, ?_⟩) (by first | trivial | assumption) ?_
          rotate_left
          · intro wz hSz; (try dsimp only at hSz); go_simp; (try with_reducible rfl)
          try simp only [Act.put, List.setIfInBounds_toArray, List.set_cons_zero, List.set_cons_succ]
          refine wpAnyH_takeL (i := 16) (v := ?_) rfl (by kernel_rfl) (by kernel_rfl) (by kernel_rfl) (fun _ _ _ h => h) (Or.inl ⟨by rfl, ?_⟩) (by first | trivial | assumption) ?_
          rotate_left
          · intro wz hSz; (try dsimp only at hSz); go_simp; (try with_reducible rfl)
          try simp only [Act.put, List.setIfInBounds_toArray, List.set_cons_zero, List.set_cons_succ]
          refine wpAnyH_takeL (i := 17) (v := ?_) rfl (by kernel_rfl) (by kernel_rfl) (by kernel_rfl) (fun _ _ _ h => h) (Or.inl ⟨by rfl, ?_⟩) (by first | trivial | assumption) ?_
          rotate_left
          · intro wz hSz; (try dsimp only at hSz); go_simp; (try with_reducible rfl)
          try simp only [Act.put, List.setIfInBounds_toArray, List.set_cons_zero, List.set_cons_succ]
          refine wpAnyH_takeL (i := 18) (v := ?_) rfl (by kernel_rfl) (by kernel_rfl) (by kernel_rfl) (fun _ _ _ h => h) (Or.inl ⟨by rfl, ?_⟩) (by first | trivial | assumption) ?_
          rotate_left
          · intro wz hSz; (try dsimp only at hSz); go_simp; (try with_reducible rfl)
          try simp only [Act.put, List.setIfInBounds_toArray, List.set_cons_zero, List.set_cons_succ]
          refine wpAnyH_takeL (i := 20) (v := ?_) rfl (by kernel_rfl) (by kernel_rfl) (by kernel_rfl) (fun _ _ _ h => h) (Or.inl ⟨by rfl, ?_⟩) (by first | trivial | assumption) ?_
          rotate_left
          · intro wz hSz; (try dsimp only at hSz); go_simp; (try with_reducible rfl)
          try simp only [Act.put, List.setIfInBounds_toArray, List.set_cons_zero, List.set_cons_succ]
          refine wpAnyH_takeL (i := 21) (v := ?_) rfl (by kernel_rfl) (by kernel_rfl) (by kernel_rfl) (fun _ _ _ h => h) (Or.inl ⟨by rfl, ?_⟩) (by first | trivial | assumption) ?_
          rotate_left
          · intro wz hSz; (try dsimp only at hSz); go_simp; (try with_reducible rfl)
          try simp only [Act.put, List.setIfInBounds_toArray, List.set_cons_zero, List.set_cons_succ]
          refine wpAnyH_takeL (i := 22) (v := ?_) rfl (by kernel_rfl) (by kernel_rfl) (by kernel_rfl) (fun _ _ _ h => h) (Or.inl ⟨by rfl, ?_⟩) (by first | trivial | assumption) ?_
          rotate_left
          · intro wz hSz; (try dsimp only at hSz); go_simp; (try with_reducible rfl)
          try simp only [Act.put, List.setIfInBounds_toArray, List.set_cons_zero, List.set_cons_succ]
          refine wpAnyH_takeL (i := 23) (v := ?_) rfl (by kernel_rfl) (by kernel_rfl) (by kernel_rfl) (fun _ _ _ h => h) (Or.inl ⟨by rfl, ?_⟩) (by first | trivial | assumption) ?_
          rotate_left
          · intro wz hSz; (try dsimp only at hSz); go_simp; (try with_reducible rfl)
          try simp only [Act.put, List.setIfInBounds_toArray, List.set_cons_zero, List.set_cons_succ]
          refine wpAnyH_ready (rs := [19]) (by kernel_rfl) (by simp) ?_
          refine AllReadyH.consL rfl (fun K hK => ?_) AllReadyH.nil
          go_simp
          refine hDu.mono ?_
          rintro e w7 ⟨rfl, hb7⟩
          have t2 := (hb7.cell (p := ⟨o, 2, none⟩) (Nat.lt_of_lt_of_le hol hb6.size)).trans s2
          have t3 := (hb7.cell (p := ⟨o, 3, none⟩) (Nat.lt_of_lt_of_le hol hb6.size)).trans s3
          have t4 := (hb7.cell (p := ⟨o, 4, none⟩) (Nat.lt_of_lt_of_le hol hb6.size)).trans s4
          have t6 := (hb7.cell (p := ⟨o, 6, none⟩) (Nat.lt_of_lt_of_le hol hb6.size)).trans s6
          refine hK.out _ _ (⟨t2, t3, t4, t6⟩) (fun hHeld => ?_)
          clear hK K
          try simp only [Act.put, List.setIfInBounds_toArray, List.set_cons_zero, List.set_cons_succ]
          have hd7 := (HBO.out.dev.new hb6).new hb7
          have hPe := pending_is hd7 HRA.out.np.symm
          have hOp := dops_any hd7
          have hPg := dpages_any hd7
          have hRp := rpages_any ((HBO.out.ref.new hb6).new hb7)
          obtain ⟨PG, hPG⟩ : ∃ PG, PG = NS.img.length / NS.size := ⟨_, rfl⟩
          rw [← hPG] at hPg hRp
          clear hDu hPG hd7
          refine wpAnyH_takeL (i := 24) (v := ?_) rfl (by kernel_rfl) (by kernel_rfl) (by kernel_rfl) (fun _ _ _ h => h) (Or.inl ⟨by rfl, ?_⟩) (by first | trivial | assumption) ?_
          rotate_left
          · intro wz hSz; (try dsimp only at hSz); go_simp; (try with_reducible rfl)
          try simp only [Act.put, List.setIfInBounds_toArray, List.set_cons_zero, List.set_cons_succ]
          refine wpAnyH_takeL (i := 25) (v := ?_) rfl (by kernel_rfl) (by kernel_rfl) (by kernel_rfl) (fun _ _ _ h => h) (Or.inl ⟨by rfl, ?_⟩) (by first | trivial | assumption) ?_
          rotate_left
          · intro wz hSz; (try dsimp only at hSz); go_simp; (try with_reducible rfl)
          try simp only [Act.put, List.setIfInBounds_toArray, List.set_cons_zero, List.set_cons_succ]
          refine wpAnyH_takeL (i := 26) (v := ?_) rfl (by kernel_rfl) (by kernel_rfl) (by kernel_rfl) (fun _ _ _ h => h) (Or.inl ⟨by rfl, ?_⟩) (by first | trivial | assumption) ?_
          rotate_left
          · intro wz hSz; (try dsimp only at hSz); go_simp; (try with_reducible rfl)
          try simp only [Act.put, List.setIfInBounds_toArray, List.set_cons_zero, List.set_cons_succ]
          refine wpAnyH_takeL (i := 27) (v := ?_) rfl (by kernel_rfl) (by kernel_rfl) (by kernel_rfl) (fun _ _ _ h => h) (Or.inl ⟨by rfl, ?_⟩) (by first | trivial | assumption) ?_
          rotate_left
          · intro wz hSz; (try dsimp only at hSz); go_simp; (try with_reducible rfl)
          try simp only [Act.put, List.setIfInBounds_toArray, List.set_cons_zero, List.set_cons_succ]
          refine wpAnyH_takeL (i := 29) (v := ?_) rfl (by kernel_rfl) (by kernel_rfl) (by kernel_rfl) (fun _ _ _ h => h) (Or.inl ⟨by rfl, ?_⟩) (by first | trivial | assumption) ?_
          rotate_left
          · intro wz hSz; (try dsimp only at hSz); go_simp; (try with_reducible rfl)
          try simp only [Act.put, List.setIfInBounds_toArray, List.set_cons_zero, List.set_cons_succ]
          refine wpAnyH_takeL (i := 30) (v := ?_) rfl (by kernel_rfl) (by kernel_rfl) (by kernel_rfl) (fun _ _ _ h => h) (Or.inl ⟨by rfl, ?_⟩) (by first | trivial | assumption) ?_
          rotate_left
          · intro wz hSz; (try dsimp only at hSz); go_simp; (try with_reducible rfl)
          try simp only [Act.put, List.setIfInBounds_toArray, List.set_cons_zero, List.set_cons_succ]
          refine wpAnyH_takeL (i := 31) (v := ?_) rfl (by kernel_rfl) (by kernel_rfl) (by kernel_rfl) (fun _ _ _ h => h) (Or.inl ⟨by rfl, ?_⟩) (by first | trivial | assumption) ?_
          rotate_left
          · intro wz hSz; (try dsimp only at hSz); go_simp; (try with_reducible rfl)
          try simp only [Act.put, List.setIfInBounds_toArray, List.set_cons_zero, List.set_cons_succ]
          refine wpAnyH_takeL (i := 32) (v := ?_) rfl (by kernel_rfl) (by kernel_rfl) (by kernel_rfl) (fun _ _ _ h => h) (Or.inl ⟨by rfl, ?_⟩) (by first | trivial | assumption) ?_
          rotate_left
          · intro wz hSz; (try dsimp only at hSz); go_simp; (try with_reducible rfl)
          try simp only [Act.put, List.setIfInBounds_toArray, List.set_cons_zero, List.set_cons_succ]
          refine wpAnyH_takeL (i := 33) (v := ?_) rfl (by kernel_rfl) (by kernel_rfl) (by kernel_rfl) (fun _ _ _ h => h) (Or.inl ⟨by rfl, ?_⟩) (by first | trivial | assumption) ?_
          rotate_left
          · intro wz hSz; (try dsimp only at hSz); go_simp; (try with_reducible rfl)
          try simp only [Act.put, List.setIfInBounds_toArray, List.set_cons_zero, List.set_cons_succ]
          refine wpAnyH_ready (rs := [28]) (by kernel_rfl) (by simp) ?_
          refine AllReadyH.consL rfl (fun K hK => ?_) AllReadyH.nil
          go_simp
          refine hPe.mono ?_
          rintro e w' ⟨rfl, rfl⟩
          refine hK.out _ _ (⟨t2, t3, t4, t6⟩) (fun hHeld => ?_)
          clear hK K
          try simp only [Act.put, List.setIfInBounds_toArray, List.set_cons_zero, List.set_cons_succ]
          refine wpAnyH_takeL (i := 34) (v := ?_) rfl (by kernel_rfl) (by kernel_rfl) (by kernel_rfl) (fun _ _ _ h => h) (Or.inl ⟨by rfl, ?_⟩) (by first | trivial | assumption) ?_
          rotate_left
          · intro wz hSz; (try dsimp only at hSz); go_simp; (try with_reducible rfl)
          try simp only [Act.put, List.setIfInBounds_toArray, List.set_cons_zero, List.set_cons_succ]
          refine wpAnyH_takeL (i := 35) (v := ?_) rfl (by kernel_rfl) (by kernel_rfl) (by kernel_rfl) (fun _ _ _ h => h) (Or.inl ⟨by rfl, ?_⟩) (by first | trivial | assumption) ?_
          rotate_left
          · intro wz hSz; (try dsimp only at hSz); go_simp; (try with_reducible rfl)
          try simp only [Act.put, List.setIfInBounds_toArray, List.set_cons_zero, List.set_cons_succ]
          refine wpAnyH_takeL (i := 36) (v := ?_) rfl (by kernel_rfl) (by kernel_rfl) (by kernel_rfl) (fun _ _ _ h => h) (Or.inl ⟨by rfl, ?_⟩) (by first | trivial | assumption) ?_
          rotate_left
          · intro wz hSz; (try dsimp only at hSz); go_simp; (try with_reducible rfl)
          try simp only [Act.put, List.setIfInBounds_toArray, List.set_cons_zero, List.set_cons_succ]
          refine wpAnyH_takeL (i := 37) (v := ?_) rfl (by kernel_rfl) (by kernel_rfl) (by kernel_rfl) (fun _ _ _ h => h) (Or.inl ⟨by rfl, ?_⟩) (by first | trivial | assumption) ?_
          rotate_left
          · intro wz hSz; (try dsimp only at hSz); go_simp; (try with_reducible rfl)
          try simp only [Act.put, List.setIfInBounds_toArray, List.set_cons_zero, List.set_cons_succ]
          refine wpAnyH_takeL (i := 39) (v := ?_) rfl (by kernel_rfl) (by kernel_rfl) (by kernel_rfl) (fun _ _ _ h => h) (Or.inl ⟨by rfl, ?_⟩) (by first | trivial | assumption) ?_
          rotate_left
          · intro wz hSz; (try dsimp only at hSz); go_simp; (try with_reducible rfl)
          try simp only [Act.put, List.setIfInBounds_toArray, List.set_cons_zero, List.set_cons_succ]
          refine wpAnyH_takeL (i := 40) (v := ?_) rfl (by kernel_rfl) (by kernel_rfl) (by kernel_rfl) (fun _ _ _ h => h) (Or.inl ⟨by rfl, ?_⟩) (by first | trivial | assumption) ?_
          rotate_left
          · intro wz hSz; (try dsimp only at hSz); go_simp; (try with_reducible rfl)
          try simp only [Act.put, List.setIfInBounds_toArray, List.set_cons_zero, List.set_cons_succ]
          refine wpAnyH_takeL (i := 41) (v := ?_) rfl (by kernel_rfl) (by kernel_rfl) (by kernel_rfl) (fun _ _ _ h => h) (Or.inl ⟨by rfl, ?_⟩) (by first | trivial | assumption) ?_
          rotate_left
          · intro wz hSz; (try dsimp only at hSz); go_simp; (try with_reducible rfl)
          try simp only [Act.put, List.setIfInBounds_toArray, List.set_cons_zero, List.set_cons_succ]
          refine wpAnyH_takeL (i := 42) (v := ?_) rfl (by kernel_rfl) (by kernel_rfl) (by kernel_rfl) (fun _ _ _ h => h) (Or.inl ⟨by rfl, ?_⟩) (by first | trivial | assumption) ?_
          rotate_left
          · intro wz hSz; (try dsimp only at hSz); go_simp; (try with_reducible rfl)
          try simp only [Act.put, List.setIfInBounds_toArray, List.set_cons_zero, List.set_cons_succ]
          refine wpAnyH_ready (rs := [38]) (by kernel_rfl) (by simp) ?_
          refine AllReadyH.consL rfl (fun K hK => ?_) AllReadyH.nil
          go_simp
          refine hOp.mono ?_
          rintro e w' ⟨rfl, rfl⟩
          refine hK.out _ _ (⟨t2, t3, t4, t6⟩) (fun hHeld => ?_)
          clear hK K
          try simp only [Act.put, List.setIfInBounds_toArray, List.set_cons_zero, List.set_cons_succ]
          refine wpAnyH_takeL (i := 43) (v := ?_) rfl (by kernel_rfl) (by kernel_rfl) (by kernel_rfl) (fun _ _ _ h => h) (Or.inl ⟨by rfl, ?_⟩) (by first | trivial | assumption) ?_
          rotate_left
          · intro wz hSz; (try dsimp only at hSz); go_simp; (try with_reducible rfl)
          try simp only [Act.put, List.setIfInBounds_toArray, List.set_cons_zero, List.set_cons_succ]
          refine wpAnyH_takeL (i := 44) (v := ?_) rfl (by kernel_rfl) (by kernel_rfl) (by kernel_rfl) (fun _ _ _ h => h) (Or.inl ⟨by rfl, ?_⟩) (by first | trivial | assumption) ?_
          rotate_left
          · intro wz hSz; (try dsimp only at hSz); go_simp; (try with_reducible rfl)
          try simp only [Act.put, List.setIfInBounds_toArray, List.set_cons_zero, List.set_cons_succ]
          refine wpAnyH_takeL (i := 45) (v := ?_) rfl (by kernel_rfl) (by kernel_rfl) (by kernel_rfl) (fun _ _ _ h => h) (Or.inl ⟨by rfl, ?_⟩) (by first | trivial | assumption) ?_
          rotate_left
          · intro wz hSz; (try dsimp only at hSz); go_simp; (try with_reducible rfl)
          try simp only [Act.put, List.setIfInBounds_toArray, List.set_cons_zero, List.set_cons_succ]
          refine wpAnyH_takeL (i := 46) (v := ?_) rfl (by kernel_rfl) (by kernel_rfl) (by kernel_rfl) (fun _ _ _ h => h) (Or.inl ⟨by rfl, ?_⟩) (by first | trivial | assumption) ?_
          rotate_left
          · intro wz hSz; (try dsimp only at hSz); go_simp; (try with_reducible rfl)
          try simp only [Act.put, List.setIfInBounds_toArray, List.set_cons_zero, List.set_cons_succ]
          refine wpAnyH_takeL (i := 48) (v := ?_) rfl (by kernel_rfl) (by kernel_rfl) (by kernel_rfl) (fun _ _ _ h => h) (Or.inl ⟨by rfl, ?_⟩) (by first | trivial | assumption) ?_
          rotate_left
          · intro wz hSz; (try dsimp only at hSz); go_simp; (try with_reducible rfl)
          try simp only [Act.put, List.setIfInBounds_toArray, List.set_cons_zero, List.set_cons_succ]
          refine wpAnyH_ready (rs := [47]) (by kernel_rfl) (by simp) ?_
          refine AllReadyH.consL rfl (fun K hK => ?_) AllReadyH.nil
          go_simp
          refine hPg.mono ?_
          rintro e w' ⟨rfl, rfl⟩
          refine hK.out _ _ (⟨t2, t3, t4, t6⟩) (fun hHeld => ?_)
          clear hK K
          try simp only [Act.put, List.setIfInBounds_toArray, List.set_cons_zero, List.set_cons_succ]
          refine wpAnyH_ready (rs := [49]) (by kernel_rfl) (by simp) ?_
          refine AllReadyH.consL rfl (fun K hK => ?_) AllReadyH.nil
          go_simp
          refine hRp.mono ?_
          rintro e w8 ⟨rfl, hb8⟩
          have hol7 := Nat.lt_of_lt_of_le (Nat.lt_of_lt_of_le hol hb6.size) hb7.size
          refine hK.out _ _ (⟨(hb8.cell (p := ⟨o, 2, none⟩) hol7).trans t2, (hb8.cell (p := ⟨o, 3, none⟩) hol7).trans t3, (hb8.cell (p := ⟨o, 4, none⟩) hol7).trans t4, (hb8.cell (p := ⟨o, 6, none⟩) hol7).trans t6⟩) (fun hHeld => ?_)
          clear hK K
          try simp only [Act.put, List.setIfInBounds_toArray, List.set_cons_zero, List.set_cons_succ]
          refine wpAnyH_takeL (i := 50) (v := ?_) rfl (by kernel_rfl) (by kernel_rfl) (by kernel_rfl) (fun _ _ _ h => h) (Or.inl ⟨by rfl, ?_⟩) (by first | trivial | assumption) ?_
          rotate_left
          · intro wz hSz; (try dsimp only at hSz); go_simp; (try with_reducible rfl)
          try simp only [Act.put, List.setIfInBounds_toArray, List.set_cons_zero, List.set_cons_succ]
          refine wpAnyH_takeL (i := 51) (v := ?_) rfl (by kernel_rfl) (by kernel_rfl) (by kernel_rfl) (fun _ _ _ h => h) (Or.inl ⟨by rfl, ?_⟩) (by first | trivial | assumption) ?_
          rotate_left
          · intro wz hSz; (try dsimp only at hSz); go_simp; (try with_reducible rfl)
          try simp only [Act.put, List.setIfInBounds_toArray, List.set_cons_zero, List.set_cons_succ]
          refine wpAnyH_done (by kernel_rfl) ?_ _
          go_wp2_with fail
          go_roundw
          case rel =>
            refine ⟨k + 1, by omega, by go_num, ?_⟩
            have hbk : Below w.heap.size w w5 := hbel.drew.trans (HKP.out.below (fun j hj => by rcases hj with hj | hj; exact hF j hj; exact hR j hj) hbel.size)
            have no := nextS_ops S a
            rw [← HNS.out] at no
            have z5 := hbk.size
            have z6 := hb6.size
            have z7 := hb7.size
            refine Lib.hid ⟨F', R', NS, ((HBO.out.new hb6).new hb7).new hb8, by omega, fun j hj => ?_, fun j hj => ?_, ((hbk.trans (hb6.mono z5)).trans (hb7.mono (by omega))).trans (hb8.mono (by omega))⟩
            · rcases HFF.out j hj with h | h
              · exact hF j h
              · have : w.heap.size ≤ wr.drew.heap.size := hbel.size
                omega
            · rcases HRR.out j hj with h | h
              · exact hR j h
              · have : w.heap.size ≤ wr.drew.heap.size := hbel.size
                omega
          case measure => simp [RowKit.intOf]; omega
        · obtain rfl : k = n := by omega
          go_wp2_with fail
          go_ret
          exact ⟨rfl, hbel⟩
end Go.Proofs.Ytmkejkmgpigmhaa
