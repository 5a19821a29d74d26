/-
  Contract of the reference's Lists of layer 11, where it makes pages. (Written by wip/tools/gen_ref11t.py.)
-/
import Derived.Test.YtabhhccdbfjigaaJ26
import Derived.Lib.MinMax
namespace Go.Proofs.Ytabhhccdbfjigaa
open Go.RowKit
open Go.Lib hiding intOf
set_option linter.unusedVariables false
set_option linter.unusedSimpArgs false
attribute [local go_sem ↓] Go.wp_at_zero Go.wp_at_succ

set_option maxRecDepth 100000 in
set_option maxHeartbeats 12800000 in
theorem rlists_yes (z : Nat) (tx : Nat) (A : Option Addr) (n c : Nat) (ps : List Nat) (A2 : Option Addr) (n2 c2 : Nat) (ns : List Nat) (w : World) (hr : Reads w w.heap.size 1 A n (ucells ps)) (hn : n ≤ 1000000) (hr2 : Reads w w.heap.size 1 A2 n2 (ucells ns)) (hn2 : n2 ≤ 1000000) (hcc : n2 ≤ c2) (L : List Pg) (ho : listsL z tx ps ns = some L) : Calls Try.prog 19 #[.int .i64 z, .int .u64 tx, .slice A n c, .slice A2 n2 c2] w (PgsPost (some L) w) := by
  obtain ⟨hg, h1, h2, h3, h4, h5, hL⟩ := listsL_some ho
  obtain ⟨size, hsz⟩ : ∃ size : Int, size = z := ⟨_, rfl⟩
  rw [← hsz] at hg h3 ⊢
  have HPt := Lib.hid (fun i (hi : i < ps.length) => li_part ho hi)
  have HLl := Lib.hid (show L.length = n by rw [hL, List.length_map, List.length_range]; exact ulen hr)
  have HLat := Lib.hid (fun i (hi : i < ps.length) => show L[i]? = some (liPg z tx ps ns i) by rw [hL, List.getElem?_map, List.getElem?_range hi]; rfl)
  have HFi := Lib.hid h4
  have HNu := Lib.hid (show (allU ns && ascU ns) = true by rw [h1, h2]; rfl)
  have HM := fun w => rmost10_any size w
  obtain ⟨mo, hmo⟩ : ∃ x, x = mostN size := ⟨_, rfl⟩
  rw [← hmo] at HM
  have HMo := Lib.hid (show mostN z = mo by rw [hmo, hsz])
  have hmo9 : mo ≤ 1018 := by rw [hmo]; exact mostN_le _
  have HLn2 := Lib.hid (ulen hr2)
  have HLs := Lib.hid (ulen hr)
  obtain ⟨i0, hi0, hz0, hz1, hz2⟩ := info_parts infoPg11
  obtain ⟨hzp, hi⟩ := zero_of_info infoPg
  have HI := Lib.hid hi
  have HG := fun w => rgood_any size w
  rw [hg] at HG
  have HN := fun w => (rneed10_any size n2 w (by omega)).mono (R' := fun e w' => e = .returned (.int .i64 (needF size n2)) ∧ w = w') fun _ _ ⟨a, b⟩ => ⟨a, b⟩
  obtain ⟨nd, hnd⟩ : ∃ x, x = needF size n2 := ⟨_, rfl⟩
  rw [← hnd] at HN
  have hnl := ulen hr2
  have hgt : decide ((n : Int) < (nd : Int)) = false := by rw [hnl, ← hnd, ulen hr] at h3; simp; omega
  have hgt2 : decide (n < nd) = false := by rw [hnl, ← hnd, ulen hr] at h3; simp; omega
  clear hnl
  have htx : decide ((4611686018427387904 : Int) < tx) = false := by simp; omega
  have HSz := Lib.hid hsz
  clear hi hg h1 h2 h3 h4 h5 hL ho hsz hnd hmo
  have HR := Lib.hid hr
  have HR2 := Lib.hid hr2
  go_enter Try.func19, Try.ntmps19
  go_wp2_with (go_at_call 49; refine (HG _).mono ?_; rintro e w' ⟨rfl, rfl⟩)
  refine (rnumbers_any A2 n2 c2 ns _ HR2.out (by unfold maxLen; omega)).mono ?_
  rw [HNu.out]
  rintro e w1 ⟨rfl, q1, hq1⟩
  have HB := Lib.hid (show Below w.heap.size w w1 by rw [hq1]; exact below_drewN (Below.refl _ _) q1)
  clear hq1
  go_wp2_with (go_at_call 54; refine (HN _).mono ?_; rintro e w' ⟨rfl, rfl⟩)
  refine (rfine_any A n c ps _ (HR.out.below HB.out) hn).mono ?_
  rw [HFi.out]
  rintro e w2 ⟨rfl, q, hq⟩
  have HB2 := Lib.hid (show Below w.heap.size w w2 by rw [hq]; exact below_drewN HB.out q)
  clear hq
  clear hr hr2
  go_wp2_with fail
  clear htx hgt hgt2 HN HG
  go_loopw [3, 10, 11] (fun v b i wr => ∃ (k r cr : Nat) (X : Option Addr) (A' : Option Addr) (c' : Nat), k ≤ n ∧ i = .int .i64 k ∧ v = .slice X r cr ∧ Hid (r = n2 - k * mo) ∧ Hid (r ≤ cr) ∧ Hid (Reads w w.heap.size 1 X r (ucells (ns.drop (k * mo)))) ∧ b = .slice A' k c' ∧ Hid (wr.ownsRow w2.heap.size 40 6 (.slice A' k c') k (pgcs (L.take k))) ∧ Hid (Below w2.heap.size w2 wr)) (fun _ _ i _ => n - (intOf i).toNat)
  case atStart => exact ⟨0, n2, c2, A2, none, 0, Nat.zero_le _, rfl, rfl, Lib.hid (by omega), Lib.hid hcc, Lib.hid (by rw [Nat.zero_mul]; exact HR2.out), rfl, Lib.hid (World.ownsRow_nil _ _ _ _), Lib.hid (Below.refl _ _)⟩
  case round =>
    obtain ⟨k, r, cr, X, A', c', hk, rfl, rfl, HRr, HRc, HX0, rfl, HO, HW⟩ := hrel
    have hr9 : r ≤ n2 := by rw [HRr.out]; exact Nat.sub_le _ _
    by_cases hlt : k < n
    · have HBr := Lib.hid (HB2.out.trans (HW.out.mono HB2.out.size))
      obtain ⟨ad, rfl, hab, hc0⟩ := ureads_at (HR.out.below HBr.out) hlt
      obtain ⟨q, hq⟩ : ∃ q, q = min r mo := ⟨_, rfl⟩
      have hmin : min (r : Int) (mo : Int) = (q : Int) := by omega
      have hqr : q ≤ r := by omega
      have hqm : q ≤ mo := by omega
      have hp2 := HPt.out k (by rw [HLs.out]; exact hlt)
      have hla := HLat.out k (by rw [HLs.out]; exact hlt)
      have hts := take_snoc_at hla
      have hdl : (ns.drop (k * mo)).length = r := by rw [List.length_drop, HLn2.out, HRr.out]
      obtain ⟨pz, hpz⟩ : ∃ x, x = (ns.drop (k * mo)).take mo := ⟨_, rfl⟩
      have hpq : pz = (ns.drop (k * mo)).take q := by
        rw [hpz, hq]
        by_cases h : r ≤ mo
        · rw [Nat.min_eq_left h, List.take_of_length_le (by omega), List.take_of_length_le (by omega)]
        · rw [Nat.min_eq_right (by omega)]
      have hpl : pz.length = q := by rw [hpq, List.length_take, hdl]; omega
      obtain ⟨pn, hpn⟩ : ∃ x, x = nthU ps k := ⟨_, rfl⟩
      obtain ⟨nx, hnx⟩ : ∃ x, x = nextL ps k := ⟨_, rfl⟩
      rw [← hpn] at hc0
      rw [HMo.out, ← hpz, ← hpn, ← hnx] at hp2
      have hPg : liPg z tx ps ns k = ⟨6, q, pn, nx, tx, freeBody z pz⟩ := by unfold liPg; rw [HMo.out, ← hpz, ← hpn, ← hnx, hpl]
      rw [hPg] at hts
      have HNx := fun (wx : World) (hb : Below wr.heap.size wr wx) => (rnext_any (some ad) n c ps k wx (HR.out.below (HBr.out.trans (hb.mono HBr.out.size))) hn (by omega))
      rw [← hnx] at HNx
      have HPg := fun (wx : World) (hb : Below wr.heap.size wr wx) => rpage10_yes z pn nx tx X q cr pz wx (by rw [hpq]; exact (utake (HX0.out.below (HBr.out.trans (hb.mono HBr.out.size))) hqr).more (HBr.out.trans (hb.mono HBr.out.size)).size) hp2
      rw [← HSz.out] at HPg
      obtain ⟨B, hB⟩ : ∃ B, B = freeBody z pz := ⟨_, rfl⟩
      rw [← hB] at HPg hts
      have hS := fun (wx : World) (hb : Below wr.heap.size wr wx) => show wx.cell? (ad.add k) = some (.int .u32 pn) from cell_in hc0 hb (Nat.lt_of_lt_of_le hab HBr.out.size)
      have HTs := Lib.hid hts
      obtain ⟨X2, hX2, hsl⟩ := usliced X r cr q q rfl hqr
      have HX2 := Lib.hid (show Reads w w.heap.size 1 X2 (r - q) (ucells (ns.drop ((k + 1) * mo))) by
        have h := udrop HX0.out hqr HRc.out
        rw [← hX2, List.drop_drop] at h
        by_cases hh : r ≤ mo
        · rw [show r - q = 0 by omega, List.drop_of_length_le (by rw [HLn2.out, Nat.succ_mul]; have := HRr.out; omega)]
          exact ⟨by simp [ucells], fun h => absurd h (Nat.lt_irrefl 0)⟩
        · rw [show k * mo + q = (k + 1) * mo by rw [Nat.succ_mul]; omega] at h
          exact h)
      have HR9 := Lib.hid (show r - q = n2 - (k + 1) * mo by rw [Nat.succ_mul]; have := HRr.out; omega)
      have HC9 := Lib.hid (show r - q ≤ cr - q by have := HRc.out; omega)
      have hk0 : (0 : Int) ≤ k := by omega
      have hk1 : (k : Int) < n := by omega
      have hq0 : (0 : Int) ≤ q := by omega
      have hqc : (q : Int) ≤ cr := by have := HRc.out; omega
      have hqr' : (q : Int) ≤ r := by omega
      clear hpz hpn hnx hp2 hla hts hPg hB hab hpq hpl hdl hq hX2
      go_wp2_with (go_at_call 55; refine (HM _).mono ?_; rintro e w' ⟨rfl, rfl⟩)
      go_upto_region 8 with fail
      refine wp_region_held_drew (S := fun wx => wx.cell? (ad.add k) = some (.int .u32 pn)) (by kernel_rfl) (hc0) (fun _ => ?_)
      have hHeld := hc0
      refine wpAnyH_takeL (i := 0) (v := ?_) rfl (by kernel_rfl) (by kernel_rfl) (by kernel_rfl) (fun _ _ _ h => h) (Or.inl ⟨by rfl, ?_⟩) (by exact hHeld) ?_
      rotate_left
      · intro wz hSz; (try dsimp only at hSz); go_simp; (try with_reducible rfl)
      try simp only [Act.put, List.setIfInBounds_toArray, List.set_cons_zero, List.set_cons_succ]
      refine wpAnyH_takeL (i := 1) (v := ?_) rfl (by kernel_rfl) (by kernel_rfl) (by kernel_rfl) (fun _ _ _ h => h) (Or.inl ⟨by rfl, ?_⟩) (by exact hHeld) ?_
      rotate_left
      · intro wz hSz; (try dsimp only at hSz); go_simp; (try with_reducible rfl)
      try simp only [Act.put, List.setIfInBounds_toArray, List.set_cons_zero, List.set_cons_succ]
      refine wpAnyH_takeL (i := 2) (v := ?_) rfl (by kernel_rfl) (by kernel_rfl) (by kernel_rfl) (fun _ _ _ h => h) (Or.inl ⟨by rfl, ?_⟩) (by exact hHeld) ?_
      rotate_left
      · intro wz hSz; (try dsimp only at hSz); go_simp; (try with_reducible rfl)
      try simp only [Act.put, List.setIfInBounds_toArray, List.set_cons_zero, List.set_cons_succ]
      refine wpAnyH_takeL (i := 3) (v := ?_) rfl (by kernel_rfl) (by kernel_rfl) (by kernel_rfl) (fun _ _ _ h => h) (Or.inl ⟨by rfl, ?_⟩) (by exact hHeld) ?_
      rotate_left
      · intro wz hSz; (try dsimp only at hSz); go_simp; (try with_reducible rfl)
      try simp only [Act.put, List.setIfInBounds_toArray, List.set_cons_zero, List.set_cons_succ]
      refine wpAnyH_takeL (i := 4) (v := ?_) rfl (by kernel_rfl) (by kernel_rfl) (by kernel_rfl) (fun _ _ _ h => h) (Or.inl ⟨by rfl, ?_⟩) (by exact hHeld) ?_
      rotate_left
      · intro wz hSz; (try dsimp only at hSz); go_simp; (try with_reducible rfl)
      try simp only [Act.put, List.setIfInBounds_toArray, List.set_cons_zero, List.set_cons_succ]
      refine wpAnyH_takeL (i := 5) (v := ?_) rfl (by kernel_rfl) (by kernel_rfl) (by kernel_rfl) (fun _ _ _ h => h) (Or.inl ⟨by rfl, ?_⟩) (by exact hHeld) ?_
      rotate_left
      · intro wz hSz; (try dsimp only at hSz); go_simp; (try with_reducible rfl)
      try simp only [Act.put, List.setIfInBounds_toArray, List.set_cons_zero, List.set_cons_succ]
      refine wpAnyH_takeL (i := 6) (v := ?_) rfl (by kernel_rfl) (by kernel_rfl) (by kernel_rfl) (fun _ _ _ h => h) (Or.inl ⟨by rfl, ?_⟩) (by exact hHeld) ?_
      rotate_left
      · intro wz hSz; (try dsimp only at hSz); go_simp; (try with_reducible rfl)
      try simp only [Act.put, List.setIfInBounds_toArray, List.set_cons_zero, List.set_cons_succ]
      refine wpAnyH_takeL (i := 8) (v := ?_) rfl (by kernel_rfl) (by kernel_rfl) (by kernel_rfl) (fun _ _ _ h => h) (Or.inl ⟨by rfl, ?_⟩) (by exact hHeld) ?_
      rotate_left
      · intro wz hSz; (try dsimp only at hSz); go_simp; (try with_reducible rfl)
      try simp only [Act.put, List.setIfInBounds_toArray, List.set_cons_zero, List.set_cons_succ]
      refine wpAnyH_takeL (i := 9) (v := ?_) rfl (by kernel_rfl) (by kernel_rfl) (by kernel_rfl) (fun _ _ _ h => h) (Or.inl ⟨by rfl, ?_⟩) (by exact hHeld) ?_
      rotate_left
      · intro wz hSz; (try dsimp only at hSz); go_simp; (try with_reducible rfl)
      try simp only [Act.put, List.setIfInBounds_toArray, List.set_cons_zero, List.set_cons_succ]
      refine wpAnyH_takeL (i := 10) (v := ?_) rfl (by kernel_rfl) (by kernel_rfl) (by kernel_rfl) (fun _ _ _ h => h) (Or.inl ⟨by rfl, ?_⟩) (by exact hHeld) ?_
      rotate_left
      · intro wz hSz; (try dsimp only at hSz); go_simp; (try with_reducible rfl)
      try simp only [Act.put, List.setIfInBounds_toArray, List.set_cons_zero, List.set_cons_succ]
      refine wpAnyH_takeL (i := 11) (v := ?_) rfl (by kernel_rfl) (by kernel_rfl) (by kernel_rfl) (fun _ _ _ h => h) (Or.inl ⟨by rfl, ?_⟩) (by exact hHeld) ?_
      rotate_left
      · intro wz hSz; (try dsimp only at hSz); go_simp; (try with_reducible rfl)
      try simp only [Act.put, List.setIfInBounds_toArray, List.set_cons_zero, List.set_cons_succ]
      clear hc0
      refine wpAnyH_ready (rs := [7, 16]) (by kernel_rfl) (by simp) ?_
      refine AllReadyH.consL rfl (fun K hK => ?_) (AllReadyH.consL rfl (fun K hK => ?_) AllReadyH.nil)
      · skip
        go_simp
        refine (HNx _ (Below.refl wr.heap.size wr).drew).mono ?_
        rintro e wq ⟨rfl, rfl⟩
        refine hK.out _ _ (hS _ (Below.refl wr.heap.size wr).drew) (fun hHeld => ?_)
        clear hK K
        try simp only [Act.put, List.setIfInBounds_toArray, List.set_cons_zero, List.set_cons_succ]
        refine wpAnyH_ready (rs := [12, 16]) (by kernel_rfl) (by simp) ?_
        refine AllReadyH.consL rfl (fun K hK => ?_) (AllReadyH.consL rfl (fun K hK => ?_) AllReadyH.nil)
        · skip
          go_simp
          refine (HPg _ (Below.refl wr.heap.size wr).drew).mono ?_
          rintro e w4 ⟨rfl, hb4⟩
          have HW4 := Lib.hid ((Below.refl wr.heap.size wr).drew.trans (hb4.mono (Below.refl wr.heap.size wr).drew.size))
          refine hK.out _ _ (hS _ HW4.out) (fun hHeld => ?_)
          clear hK K
          try simp only [Act.put, List.setIfInBounds_toArray, List.set_cons_zero, List.set_cons_succ]
          refine wpAnyH_takeL (i := 13) (v := ?_) rfl (by kernel_rfl) (by kernel_rfl) (by kernel_rfl) (fun _ _ _ h => h) (Or.inl ⟨by rfl, ?_⟩) (by exact hHeld) ?_
          rotate_left
          · intro wz hSz; (try dsimp only at hSz); go_simp; (try with_reducible rfl)
          try simp only [Act.put, List.setIfInBounds_toArray, List.set_cons_zero, List.set_cons_succ]
          refine wpAnyH_takeL (i := 14) (v := ?_) rfl (by kernel_rfl) (by kernel_rfl) (by kernel_rfl) (fun _ _ _ h => h) (Or.inl ⟨by rfl, ?_⟩) (by exact hHeld) ?_
          rotate_left
          · intro wz hSz; (try dsimp only at hSz); go_simp; (try with_reducible rfl)
          try simp only [Act.put, List.setIfInBounds_toArray, List.set_cons_zero, List.set_cons_succ]
          refine wpAnyH_takeL (i := 15) (v := ?_) rfl (by kernel_rfl) (by kernel_rfl) (by kernel_rfl) (fun _ _ _ h => h) (Or.inl ⟨by rfl, ?_⟩) (by exact hHeld) ?_
          rotate_left
          · intro wz hSz; (try dsimp only at hSz); go_simp; (try with_reducible rfl)
          try simp only [Act.put, List.setIfInBounds_toArray, List.set_cons_zero, List.set_cons_succ]
          refine wpAnyH_ready (rs := [16]) (by kernel_rfl) (by simp) ?_
          refine AllReadyH.consL rfl (fun K hK => ?_) AllReadyH.nil
          go_simp
          refine hK.out _ _ (hS _ (HW4.out.alloc HW4.out.size _)) (fun hHeld => ?_)
          clear hK K
          try simp only [Act.put, List.setIfInBounds_toArray, List.set_cons_zero, List.set_cons_succ]
          refine wpAnyH_ready (rs := [17]) (by kernel_rfl) (by simp) ?_
          refine AllReadyH.consL rfl (fun K hK => ?_) AllReadyH.nil
          have Q9 := Lib.hid (show Blk (w4.alloc (.cells #[.int .i64 6, .int .i64 q, .int .u32 pn, .int .u32 nx, .int .u64 tx, .string B] 40)) w4.heap.size 40 #[.int .i64 6, .int .i64 q, .int .u32 pn, .int .u32 nx, .int .u64 tx, .string B] from Blk.new _ _ _)
          have HW9 := Lib.hid (show Below wr.heap.size wr (w4.alloc (.cells #[.int .i64 6, .int .i64 q, .int .u32 pn, .int .u32 nx, .int .u64 tx, .string B] 40)) from HW4.out.alloc HW4.out.size _)
          obtain ⟨w9, hw9⟩ : ∃ x, x = w4.alloc (.cells #[.int .i64 6, .int .i64 q, .int .u32 pn, .int .u32 nx, .int .u64 tx, .string B] 40) := ⟨_, rfl⟩
          rw [← hw9] at Q9 HW9
          go_simp
          rw [← hw9]
          clear hw9
          refine hK.out _ _ (hS _ HW9.out) (fun hHeld => ?_)
          clear hK K
          try simp only [Act.put, List.setIfInBounds_toArray, List.set_cons_zero, List.set_cons_succ]
          have hgp := HW4.out.size
          generalize w4.heap.size = gp at *
          refine wpAnyH_takeL (i := 18) (v := ?_) rfl (by kernel_rfl) (by kernel_rfl) (by kernel_rfl) (fun _ _ _ h => h) (Or.inl ⟨by rfl, ?_⟩) (by exact hHeld) ?_
          rotate_left
          · intro wz hSz; (try dsimp only at hSz); go_simp; (try with_reducible rfl)
          try simp only [Act.put, List.setIfInBounds_toArray, List.set_cons_zero, List.set_cons_succ]
          refine wpAnyH_done (by kernel_rfl) ?_ _
          clear hHeld
          try clear p0 p1 p2 p3 p4 p5 f0 f1 f2 f3 f4 f5
          go_upto_region 9 with fail
          refine wp_region_held_drew (S := fun wx => Blk wx gp 40 #[.int .i64 6, .int .i64 q, .int .u32 pn, .int .u32 nx, .int .u64 tx, .string B]) (by kernel_rfl) (Q9.out.drew) (fun _ => ?_)
          have hHeld := Q9.out.drew
          refine wpAnyH_takeL (i := 0) (v := ?_) rfl (by kernel_rfl) (by kernel_rfl) (by kernel_rfl) (fun _ _ _ h => h) (Or.inl ⟨by rfl, ?_⟩) (by exact hHeld) ?_
          rotate_left
          · intro wz hSz; (try dsimp only at hSz); go_simp; (try with_reducible rfl)
          try simp only [Act.put, List.setIfInBounds_toArray, List.set_cons_zero, List.set_cons_succ]
          refine wpAnyH_takeL (i := 1) (v := ?_) rfl (by kernel_rfl) (by kernel_rfl) (by kernel_rfl) (fun _ _ _ h => h) (Or.inl ⟨by rfl, ?_⟩) (by exact hHeld) ?_
          rotate_left
          · intro wz hSz; (try dsimp only at hSz); have q0 := hSz.cell 0; have q1 := hSz.cell 1; have q2 := hSz.cell 2; have q3 := hSz.cell 3; have q4 := hSz.cell 4; have q5 := hSz.cell 5; simp at q0 q1 q2 q3 q4 q5; go_simp; (try with_reducible rfl)
          try simp only [Act.put, List.setIfInBounds_toArray, List.set_cons_zero, List.set_cons_succ]
          refine wpAnyH_takeL (i := 4) (v := ?_) rfl (by kernel_rfl) (by kernel_rfl) (by kernel_rfl) (fun _ _ _ h => h) (Or.inl ⟨by rfl, ?_⟩) (by exact hHeld) ?_
          rotate_left
          · intro wz hSz; (try dsimp only at hSz); go_simp; (try with_reducible rfl)
          try simp only [Act.put, List.setIfInBounds_toArray, List.set_cons_zero, List.set_cons_succ]
          refine wpAnyH_takeL (i := 5) (v := ?_) rfl (by kernel_rfl) (by kernel_rfl) (by kernel_rfl) (fun _ _ _ h => h) (Or.inl ⟨by rfl, ?_⟩) (by exact hHeld) ?_
          rotate_left
          · intro wz hSz; (try dsimp only at hSz); go_simp; (try with_reducible rfl)
          try simp only [Act.put, List.setIfInBounds_toArray, List.set_cons_zero, List.set_cons_succ]
          refine wpAnyH_takeL (i := 6) (v := ?_) rfl (by kernel_rfl) (by kernel_rfl) (by kernel_rfl) (fun _ _ _ h => h) (Or.inl ⟨by rfl, ?_⟩) (by exact hHeld) ?_
          rotate_left
          · intro wz hSz; (try dsimp only at hSz); go_simp; (try with_reducible rfl)
          try simp only [Act.put, List.setIfInBounds_toArray, List.set_cons_zero, List.set_cons_succ]
          refine wpAnyH_ready (rs := [2]) (by kernel_rfl) (by simp) ?_
          refine AllReadyH.consL rfl (fun K hK => ?_) AllReadyH.nil
          go_simp
          refine hK.out _ _ (Q9.out.alloc _) (fun hHeld => ?_)
          clear hK K
          try simp only [Act.put, List.setIfInBounds_toArray, List.set_cons_zero, List.set_cons_succ]
          refine wpAnyH_ready (rs := [3]) (by kernel_rfl) (by simp) ?_
          refine AllReadyH.consL rfl (fun K hK => ?_) AllReadyH.nil
          have HXx := Lib.hid ((own_below HO.out HW9.out).alloc (.cells #[.int .i64 6, .int .i64 q, .int .u32 pn, .int .u32 nx, .int .u64 tx, .string B] 40))
          have HWX := Lib.hid ((HW.out.trans (HW9.out.mono HW.out.size)).alloc (HW.out.trans (HW9.out.mono HW.out.size)).size (.cells #[.int .i64 6, .int .i64 q, .int .u32 pn, .int .u32 nx, .int .u64 tx, .string B] 40))
          refine step_append_any (by rfl) (.tmp 68) (.tmp 70) _ (by rfl) w2.heap.size 40 i0 _ 6 48 Try.underlying24 hi0 hz0 hz1 hz2 rfl (by omega) (.slice A' k c') k (pgcs (L.take k)) (by rfl) HXx.out.drew (w9.heap.size + 1) (some ⟨w9.heap.size, 0, none⟩) 1 1 (pgcs [⟨6, q, pn, nx, tx, B⟩]) (by rfl) (reads_own (n := 1) (Blk.new w9 _ _).drew rfl) (pgcs_one _) (by unfold maxLen; omega) (by omega) HWX.out.size ?_
          intro v5 w5 hown5 hg5 hat
          clear hat
          have HB5 := Lib.hid (show Blk w5 gp 40 #[.int .i64 6, .int .i64 q, .int .u32 pn, .int .u32 nx, .int .u64 tx, .string B] from Blk.grown (Q9.out.alloc (.cells #[.int .i64 6, .int .i64 q, .int .u32 pn, .int .u32 nx, .int .u64 tx, .string B] 40)).drew hg5 (by intro h; have := own_base (own_below HO.out HW9.out) _ h.symm; have h2 := ((HO.out.lt _ h.symm)).2; have := HW4.out.size; omega))
          refine hK.out _ _ HB5.out (fun hHeld => ?_)
          clear hK K
          try simp only [Act.put, List.setIfInBounds_toArray, List.set_cons_zero, List.set_cons_succ]
          refine wpAnyH_takeL (i := 7) (v := ?_) rfl (by kernel_rfl) (by kernel_rfl) (by kernel_rfl) (fun _ _ _ h => h) (Or.inl ⟨by rfl, ?_⟩) (by exact hHeld) ?_
          rotate_left
          · intro wz hSz; (try dsimp only at hSz); go_simp; (try with_reducible rfl)
          try simp only [Act.put, List.setIfInBounds_toArray, List.set_cons_zero, List.set_cons_succ]
          refine wpAnyH_takeL (i := 8) (v := ?_) rfl (by kernel_rfl) (by kernel_rfl) (by kernel_rfl) (fun _ _ _ h => h) (Or.inl ⟨by rfl, ?_⟩) (by exact hHeld) ?_
          rotate_left
          · intro wz hSz; (try dsimp only at hSz); go_simp; (try with_reducible rfl)
          try simp only [Act.put, List.setIfInBounds_toArray, List.set_cons_zero, List.set_cons_succ]
          refine wpAnyH_done (by kernel_rfl) ?_ _
          rw [← pgcs_append, ← HTs.out] at hown5
          obtain ⟨A5, c5, rfl, _, _, _⟩ := own_form hown5
          have HO5 := Lib.hid hown5
          have HW5 := Lib.hid (HWX.out.drew.grown hg5 HWX.out.size (fun g hg => (HXx.out.lt g hg).1))
          clear hown5 hg5 hHeld
          go_wp2_with fail
          go_roundw
          case rel =>
            first
              | exact ⟨k + 1, r - q, cr - q, X2, A5, c5, by omega, by go_num, rfl, HR9, HC9, HX2, rfl, HO5, HW5⟩
              | ((repeat apply Exists.intro); exact ⟨⟨k + 1, r - q, cr - q, X2, A5, c5, by omega, by go_num, rfl, HR9, HC9, HX2, rfl, HO5, HW5⟩, rfl⟩)
          case measure => simp [intOf]; omega
        · skip
          obtain ⟨wa, hwa⟩ : ∃ x, x = (wr.alloc (.cells #[.int .i64 0, .int .i64 0, .int .u32 0, .int .u32 0, .int .u64 0, .string ByteArray.empty] 40)).drew := ⟨_, rfl⟩
          have HZa := Lib.hid (show Blk wa wr.heap.size 40 #[.int .i64 0, .int .i64 0, .int .u32 0, .int .u32 0, .int .u64 0, .string ByteArray.empty] by rw [hwa]; exact (Blk.new _ _ _).drew)
          have HWa := Lib.hid (show Below wr.heap.size wr wa by rw [hwa]; exact (Below.refl wr.heap.size wr).alloc (Nat.le_refl _) _ |>.drew)
          go_simp
          rw [← hwa]
          clear hwa
          refine hK.out _ _ (hS _ HWa.out) (fun hHeld => ?_)
          clear hK K
          try simp only [Act.put, List.setIfInBounds_toArray, List.set_cons_zero, List.set_cons_succ]
          refine wpAnyH_ready (rs := [12]) (by kernel_rfl) (by simp) ?_
          refine AllReadyH.consL rfl (fun K hK => ?_) AllReadyH.nil
          go_simp
          refine (HPg _ HWa.out).mono ?_
          rintro e w4 ⟨rfl, hb4⟩
          have HW4 := Lib.hid (HWa.out.trans (hb4.mono HWa.out.size))
          refine hK.out _ _ (hS _ HW4.out) (fun hHeld => ?_)
          clear hK K
          try simp only [Act.put, List.setIfInBounds_toArray, List.set_cons_zero, List.set_cons_succ]
          refine wpAnyH_takeL (i := 13) (v := ?_) rfl (by kernel_rfl) (by kernel_rfl) (by kernel_rfl) (fun _ _ _ h => h) (Or.inl ⟨by rfl, ?_⟩) (by exact hHeld) ?_
          rotate_left
          · intro wz hSz; (try dsimp only at hSz); go_simp; (try with_reducible rfl)
          try simp only [Act.put, List.setIfInBounds_toArray, List.set_cons_zero, List.set_cons_succ]
          refine wpAnyH_takeL (i := 14) (v := ?_) rfl (by kernel_rfl) (by kernel_rfl) (by kernel_rfl) (fun _ _ _ h => h) (Or.inl ⟨by rfl, ?_⟩) (by exact hHeld) ?_
          rotate_left
          · intro wz hSz; (try dsimp only at hSz); go_simp; (try with_reducible rfl)
          try simp only [Act.put, List.setIfInBounds_toArray, List.set_cons_zero, List.set_cons_succ]
          refine wpAnyH_takeL (i := 15) (v := ?_) rfl (by kernel_rfl) (by kernel_rfl) (by kernel_rfl) (fun _ _ _ h => h) (Or.inl ⟨by rfl, ?_⟩) (by exact hHeld) ?_
          rotate_left
          · intro wz hSz; (try dsimp only at hSz); go_simp; (try with_reducible rfl)
          try simp only [Act.put, List.setIfInBounds_toArray, List.set_cons_zero, List.set_cons_succ]
          have HZp := Lib.hid (HZa.out.below hb4 HZa.out.lt)
          have HWp := HW4
          generalize w4 = wp at *
          have p0 := HZp.out.cell 0
          have f0 := HZp.out.frozen 0
          have p1 := HZp.out.cell 1
          have f1 := HZp.out.frozen 1
          have p2 := HZp.out.cell 2
          have f2 := HZp.out.frozen 2
          have p3 := HZp.out.cell 3
          have f3 := HZp.out.frozen 3
          have p4 := HZp.out.cell 4
          have f4 := HZp.out.frozen 4
          have p5 := HZp.out.cell 5
          have f5 := HZp.out.frozen 5
          simp at p0 p1 p2 p3 p4 p5
          refine wpAnyH_ready (rs := [17]) (by kernel_rfl) (by simp) ?_
          refine AllReadyH.consL rfl (fun K hK => ?_) AllReadyH.nil
          have Q9 := Lib.hid (show Blk ((((((wp.setCell ⟨wr.heap.size, 0, none⟩ (.int .i64 6)).setCell ⟨wr.heap.size, 1, none⟩ (.int .i64 q)).setCell ⟨wr.heap.size, 2, none⟩ (.int .u32 pn)).setCell ⟨wr.heap.size, 3, none⟩ (.int .u32 nx)).setCell ⟨wr.heap.size, 4, none⟩ (.int .u64 tx)).setCell ⟨wr.heap.size, 5, none⟩ (.string B)) wr.heap.size 40 #[.int .i64 6, .int .i64 q, .int .u32 pn, .int .u32 nx, .int .u64 tx, .string B] from six_at HZp.out)
          have HW9 := Lib.hid (show Below wr.heap.size wr ((((((wp.setCell ⟨wr.heap.size, 0, none⟩ (.int .i64 6)).setCell ⟨wr.heap.size, 1, none⟩ (.int .i64 q)).setCell ⟨wr.heap.size, 2, none⟩ (.int .u32 pn)).setCell ⟨wr.heap.size, 3, none⟩ (.int .u32 nx)).setCell ⟨wr.heap.size, 4, none⟩ (.int .u64 tx)).setCell ⟨wr.heap.size, 5, none⟩ (.string B)) from six_below HWp.out (Nat.le_refl _))
          obtain ⟨w9, hw9⟩ : ∃ x, x = ((((((wp.setCell ⟨wr.heap.size, 0, none⟩ (.int .i64 6)).setCell ⟨wr.heap.size, 1, none⟩ (.int .i64 q)).setCell ⟨wr.heap.size, 2, none⟩ (.int .u32 pn)).setCell ⟨wr.heap.size, 3, none⟩ (.int .u32 nx)).setCell ⟨wr.heap.size, 4, none⟩ (.int .u64 tx)).setCell ⟨wr.heap.size, 5, none⟩ (.string B)) := ⟨_, rfl⟩
          rw [← hw9] at Q9 HW9
          go_simp
          rw [← hw9]
          clear hw9
          refine hK.out _ _ (hS _ HW9.out) (fun hHeld => ?_)
          clear hK K
          try simp only [Act.put, List.setIfInBounds_toArray, List.set_cons_zero, List.set_cons_succ]
          refine wpAnyH_takeL (i := 18) (v := ?_) rfl (by kernel_rfl) (by kernel_rfl) (by kernel_rfl) (fun _ _ _ h => h) (Or.inl ⟨by rfl, ?_⟩) (by exact hHeld) ?_
          rotate_left
          · intro wz hSz; (try dsimp only at hSz); go_simp; (try with_reducible rfl)
          try simp only [Act.put, List.setIfInBounds_toArray, List.set_cons_zero, List.set_cons_succ]
          refine wpAnyH_done (by kernel_rfl) ?_ _
          clear hHeld
          try clear p0 p1 p2 p3 p4 p5 f0 f1 f2 f3 f4 f5
          go_upto_region 9 with fail
          refine wp_region_held_drew (S := fun wx => Blk wx wr.heap.size 40 #[.int .i64 6, .int .i64 q, .int .u32 pn, .int .u32 nx, .int .u64 tx, .string B]) (by kernel_rfl) (Q9.out.drew) (fun _ => ?_)
          have hHeld := Q9.out.drew
          refine wpAnyH_takeL (i := 0) (v := ?_) rfl (by kernel_rfl) (by kernel_rfl) (by kernel_rfl) (fun _ _ _ h => h) (Or.inl ⟨by rfl, ?_⟩) (by exact hHeld) ?_
          rotate_left
          · intro wz hSz; (try dsimp only at hSz); go_simp; (try with_reducible rfl)
          try simp only [Act.put, List.setIfInBounds_toArray, List.set_cons_zero, List.set_cons_succ]
          refine wpAnyH_takeL (i := 1) (v := ?_) rfl (by kernel_rfl) (by kernel_rfl) (by kernel_rfl) (fun _ _ _ h => h) (Or.inl ⟨by rfl, ?_⟩) (by exact hHeld) ?_
          rotate_left
          · intro wz hSz; (try dsimp only at hSz); have q0 := hSz.cell 0; have q1 := hSz.cell 1; have q2 := hSz.cell 2; have q3 := hSz.cell 3; have q4 := hSz.cell 4; have q5 := hSz.cell 5; simp at q0 q1 q2 q3 q4 q5; go_simp; (try with_reducible rfl)
          try simp only [Act.put, List.setIfInBounds_toArray, List.set_cons_zero, List.set_cons_succ]
          refine wpAnyH_takeL (i := 4) (v := ?_) rfl (by kernel_rfl) (by kernel_rfl) (by kernel_rfl) (fun _ _ _ h => h) (Or.inl ⟨by rfl, ?_⟩) (by exact hHeld) ?_
          rotate_left
          · intro wz hSz; (try dsimp only at hSz); go_simp; (try with_reducible rfl)
          try simp only [Act.put, List.setIfInBounds_toArray, List.set_cons_zero, List.set_cons_succ]
          refine wpAnyH_takeL (i := 5) (v := ?_) rfl (by kernel_rfl) (by kernel_rfl) (by kernel_rfl) (fun _ _ _ h => h) (Or.inl ⟨by rfl, ?_⟩) (by exact hHeld) ?_
          rotate_left
          · intro wz hSz; (try dsimp only at hSz); go_simp; (try with_reducible rfl)
          try simp only [Act.put, List.setIfInBounds_toArray, List.set_cons_zero, List.set_cons_succ]
          refine wpAnyH_takeL (i := 6) (v := ?_) rfl (by kernel_rfl) (by kernel_rfl) (by kernel_rfl) (fun _ _ _ h => h) (Or.inl ⟨by rfl, ?_⟩) (by exact hHeld) ?_
          rotate_left
          · intro wz hSz; (try dsimp only at hSz); go_simp; (try with_reducible rfl)
          try simp only [Act.put, List.setIfInBounds_toArray, List.set_cons_zero, List.set_cons_succ]
          refine wpAnyH_ready (rs := [2]) (by kernel_rfl) (by simp) ?_
          refine AllReadyH.consL rfl (fun K hK => ?_) AllReadyH.nil
          go_simp
          refine hK.out _ _ (Q9.out.alloc _) (fun hHeld => ?_)
          clear hK K
          try simp only [Act.put, List.setIfInBounds_toArray, List.set_cons_zero, List.set_cons_succ]
          refine wpAnyH_ready (rs := [3]) (by kernel_rfl) (by simp) ?_
          refine AllReadyH.consL rfl (fun K hK => ?_) AllReadyH.nil
          have HXx := Lib.hid ((own_below HO.out HW9.out).alloc (.cells #[.int .i64 6, .int .i64 q, .int .u32 pn, .int .u32 nx, .int .u64 tx, .string B] 40))
          have HWX := Lib.hid ((HW.out.trans (HW9.out.mono HW.out.size)).alloc (HW.out.trans (HW9.out.mono HW.out.size)).size (.cells #[.int .i64 6, .int .i64 q, .int .u32 pn, .int .u32 nx, .int .u64 tx, .string B] 40))
          refine step_append_any (by rfl) (.tmp 68) (.tmp 70) _ (by rfl) w2.heap.size 40 i0 _ 6 48 Try.underlying24 hi0 hz0 hz1 hz2 rfl (by omega) (.slice A' k c') k (pgcs (L.take k)) (by rfl) HXx.out.drew (w9.heap.size + 1) (some ⟨w9.heap.size, 0, none⟩) 1 1 (pgcs [⟨6, q, pn, nx, tx, B⟩]) (by rfl) (reads_own (n := 1) (Blk.new w9 _ _).drew rfl) (pgcs_one _) (by unfold maxLen; omega) (by omega) HWX.out.size ?_
          intro v5 w5 hown5 hg5 hat
          clear hat
          have HB5 := Lib.hid (show Blk w5 wr.heap.size 40 #[.int .i64 6, .int .i64 q, .int .u32 pn, .int .u32 nx, .int .u64 tx, .string B] from Blk.grown (Q9.out.alloc (.cells #[.int .i64 6, .int .i64 q, .int .u32 pn, .int .u32 nx, .int .u64 tx, .string B] 40)).drew hg5 (by intro h; have := own_base (own_below HO.out HW9.out) _ h.symm; have h2 := ((HO.out.lt _ h.symm)).2; have := HW4.out.size; omega))
          refine hK.out _ _ HB5.out (fun hHeld => ?_)
          clear hK K
          try simp only [Act.put, List.setIfInBounds_toArray, List.set_cons_zero, List.set_cons_succ]
          refine wpAnyH_takeL (i := 7) (v := ?_) rfl (by kernel_rfl) (by kernel_rfl) (by kernel_rfl) (fun _ _ _ h => h) (Or.inl ⟨by rfl, ?_⟩) (by exact hHeld) ?_
          rotate_left
          · intro wz hSz; (try dsimp only at hSz); go_simp; (try with_reducible rfl)
          try simp only [Act.put, List.setIfInBounds_toArray, List.set_cons_zero, List.set_cons_succ]
          refine wpAnyH_takeL (i := 8) (v := ?_) rfl (by kernel_rfl) (by kernel_rfl) (by kernel_rfl) (fun _ _ _ h => h) (Or.inl ⟨by rfl, ?_⟩) (by exact hHeld) ?_
          rotate_left
          · intro wz hSz; (try dsimp only at hSz); go_simp; (try with_reducible rfl)
          try simp only [Act.put, List.setIfInBounds_toArray, List.set_cons_zero, List.set_cons_succ]
          refine wpAnyH_done (by kernel_rfl) ?_ _
          rw [← pgcs_append, ← HTs.out] at hown5
          obtain ⟨A5, c5, rfl, _, _, _⟩ := own_form hown5
          have HO5 := Lib.hid hown5
          have HW5 := Lib.hid (HWX.out.drew.grown hg5 HWX.out.size (fun g hg => (HXx.out.lt g hg).1))
          clear hown5 hg5 hHeld
          go_wp2_with fail
          go_roundw
          case rel =>
            first
              | exact ⟨k + 1, r - q, cr - q, X2, A5, c5, by omega, by go_num, rfl, HR9, HC9, HX2, rfl, HO5, HW5⟩
              | ((repeat apply Exists.intro); exact ⟨⟨k + 1, r - q, cr - q, X2, A5, c5, by omega, by go_num, rfl, HR9, HC9, HX2, rfl, HO5, HW5⟩, rfl⟩)
          case measure => simp [intOf]; omega
      · skip
        obtain ⟨wa, hwa⟩ : ∃ x, x = (wr.alloc (.cells #[.int .i64 0, .int .i64 0, .int .u32 0, .int .u32 0, .int .u64 0, .string ByteArray.empty] 40)).drew := ⟨_, rfl⟩
        have HZa := Lib.hid (show Blk wa wr.heap.size 40 #[.int .i64 0, .int .i64 0, .int .u32 0, .int .u32 0, .int .u64 0, .string ByteArray.empty] by rw [hwa]; exact (Blk.new _ _ _).drew)
        have HWa := Lib.hid (show Below wr.heap.size wr wa by rw [hwa]; exact (Below.refl wr.heap.size wr).alloc (Nat.le_refl _) _ |>.drew)
        go_simp
        rw [← hwa]
        clear hwa
        refine hK.out _ _ (hS _ HWa.out) (fun hHeld => ?_)
        clear hK K
        try simp only [Act.put, List.setIfInBounds_toArray, List.set_cons_zero, List.set_cons_succ]
        refine wpAnyH_ready (rs := [7]) (by kernel_rfl) (by simp) ?_
        refine AllReadyH.consL rfl (fun K hK => ?_) AllReadyH.nil
        go_simp
        refine (HNx _ HWa.out).mono ?_
        rintro e wq ⟨rfl, rfl⟩
        refine hK.out _ _ (hS _ HWa.out) (fun hHeld => ?_)
        clear hK K
        try simp only [Act.put, List.setIfInBounds_toArray, List.set_cons_zero, List.set_cons_succ]
        refine wpAnyH_ready (rs := [12]) (by kernel_rfl) (by simp) ?_
        refine AllReadyH.consL rfl (fun K hK => ?_) AllReadyH.nil
        go_simp
        refine (HPg _ HWa.out).mono ?_
        rintro e w4 ⟨rfl, hb4⟩
        have HW4 := Lib.hid (HWa.out.trans (hb4.mono HWa.out.size))
        refine hK.out _ _ (hS _ HW4.out) (fun hHeld => ?_)
        clear hK K
        try simp only [Act.put, List.setIfInBounds_toArray, List.set_cons_zero, List.set_cons_succ]
        refine wpAnyH_takeL (i := 13) (v := ?_) rfl (by kernel_rfl) (by kernel_rfl) (by kernel_rfl) (fun _ _ _ h => h) (Or.inl ⟨by rfl, ?_⟩) (by exact hHeld) ?_
        rotate_left
        · intro wz hSz; (try dsimp only at hSz); go_simp; (try with_reducible rfl)
        try simp only [Act.put, List.setIfInBounds_toArray, List.set_cons_zero, List.set_cons_succ]
        refine wpAnyH_takeL (i := 14) (v := ?_) rfl (by kernel_rfl) (by kernel_rfl) (by kernel_rfl) (fun _ _ _ h => h) (Or.inl ⟨by rfl, ?_⟩) (by exact hHeld) ?_
        rotate_left
        · intro wz hSz; (try dsimp only at hSz); go_simp; (try with_reducible rfl)
        try simp only [Act.put, List.setIfInBounds_toArray, List.set_cons_zero, List.set_cons_succ]
        refine wpAnyH_takeL (i := 15) (v := ?_) rfl (by kernel_rfl) (by kernel_rfl) (by kernel_rfl) (fun _ _ _ h => h) (Or.inl ⟨by rfl, ?_⟩) (by exact hHeld) ?_
        rotate_left
        · intro wz hSz; (try dsimp only at hSz); go_simp; (try with_reducible rfl)
        try simp only [Act.put, List.setIfInBounds_toArray, List.set_cons_zero, List.set_cons_succ]
        have HZp := Lib.hid (HZa.out.below hb4 HZa.out.lt)
        have HWp := HW4
        generalize w4 = wp at *
        have p0 := HZp.out.cell 0
        have f0 := HZp.out.frozen 0
        have p1 := HZp.out.cell 1
        have f1 := HZp.out.frozen 1
        have p2 := HZp.out.cell 2
        have f2 := HZp.out.frozen 2
        have p3 := HZp.out.cell 3
        have f3 := HZp.out.frozen 3
        have p4 := HZp.out.cell 4
        have f4 := HZp.out.frozen 4
        have p5 := HZp.out.cell 5
        have f5 := HZp.out.frozen 5
        simp at p0 p1 p2 p3 p4 p5
        refine wpAnyH_ready (rs := [17]) (by kernel_rfl) (by simp) ?_
        refine AllReadyH.consL rfl (fun K hK => ?_) AllReadyH.nil
        have Q9 := Lib.hid (show Blk ((((((wp.setCell ⟨wr.heap.size, 0, none⟩ (.int .i64 6)).setCell ⟨wr.heap.size, 1, none⟩ (.int .i64 q)).setCell ⟨wr.heap.size, 2, none⟩ (.int .u32 pn)).setCell ⟨wr.heap.size, 3, none⟩ (.int .u32 nx)).setCell ⟨wr.heap.size, 4, none⟩ (.int .u64 tx)).setCell ⟨wr.heap.size, 5, none⟩ (.string B)) wr.heap.size 40 #[.int .i64 6, .int .i64 q, .int .u32 pn, .int .u32 nx, .int .u64 tx, .string B] from six_at HZp.out)
        have HW9 := Lib.hid (show Below wr.heap.size wr ((((((wp.setCell ⟨wr.heap.size, 0, none⟩ (.int .i64 6)).setCell ⟨wr.heap.size, 1, none⟩ (.int .i64 q)).setCell ⟨wr.heap.size, 2, none⟩ (.int .u32 pn)).setCell ⟨wr.heap.size, 3, none⟩ (.int .u32 nx)).setCell ⟨wr.heap.size, 4, none⟩ (.int .u64 tx)).setCell ⟨wr.heap.size, 5, none⟩ (.string B)) from six_below HWp.out (Nat.le_refl _))
        obtain ⟨w9, hw9⟩ : ∃ x, x = ((((((wp.setCell ⟨wr.heap.size, 0, none⟩ (.int .i64 6)).setCell ⟨wr.heap.size, 1, none⟩ (.int .i64 q)).setCell ⟨wr.heap.size, 2, none⟩ (.int .u32 pn)).setCell ⟨wr.heap.size, 3, none⟩ (.int .u32 nx)).setCell ⟨wr.heap.size, 4, none⟩ (.int .u64 tx)).setCell ⟨wr.heap.size, 5, none⟩ (.string B)) := ⟨_, rfl⟩
        rw [← hw9] at Q9 HW9
        go_simp
        rw [← hw9]
        clear hw9
        refine hK.out _ _ (hS _ HW9.out) (fun hHeld => ?_)
        clear hK K
        try simp only [Act.put, List.setIfInBounds_toArray, List.set_cons_zero, List.set_cons_succ]
        refine wpAnyH_takeL (i := 18) (v := ?_) rfl (by kernel_rfl) (by kernel_rfl) (by kernel_rfl) (fun _ _ _ h => h) (Or.inl ⟨by rfl, ?_⟩) (by exact hHeld) ?_
        rotate_left
        · intro wz hSz; (try dsimp only at hSz); go_simp; (try with_reducible rfl)
        try simp only [Act.put, List.setIfInBounds_toArray, List.set_cons_zero, List.set_cons_succ]
        refine wpAnyH_done (by kernel_rfl) ?_ _
        clear hHeld
        try clear p0 p1 p2 p3 p4 p5 f0 f1 f2 f3 f4 f5
        go_upto_region 9 with fail
        refine wp_region_held_drew (S := fun wx => Blk wx wr.heap.size 40 #[.int .i64 6, .int .i64 q, .int .u32 pn, .int .u32 nx, .int .u64 tx, .string B]) (by kernel_rfl) (Q9.out.drew) (fun _ => ?_)
        have hHeld := Q9.out.drew
        refine wpAnyH_takeL (i := 0) (v := ?_) rfl (by kernel_rfl) (by kernel_rfl) (by kernel_rfl) (fun _ _ _ h => h) (Or.inl ⟨by rfl, ?_⟩) (by exact hHeld) ?_
        rotate_left
        · intro wz hSz; (try dsimp only at hSz); go_simp; (try with_reducible rfl)
        try simp only [Act.put, List.setIfInBounds_toArray, List.set_cons_zero, List.set_cons_succ]
        refine wpAnyH_takeL (i := 1) (v := ?_) rfl (by kernel_rfl) (by kernel_rfl) (by kernel_rfl) (fun _ _ _ h => h) (Or.inl ⟨by rfl, ?_⟩) (by exact hHeld) ?_
        rotate_left
        · intro wz hSz; (try dsimp only at hSz); have q0 := hSz.cell 0; have q1 := hSz.cell 1; have q2 := hSz.cell 2; have q3 := hSz.cell 3; have q4 := hSz.cell 4; have q5 := hSz.cell 5; simp at q0 q1 q2 q3 q4 q5; go_simp; (try with_reducible rfl)
        try simp only [Act.put, List.setIfInBounds_toArray, List.set_cons_zero, List.set_cons_succ]
        refine wpAnyH_takeL (i := 4) (v := ?_) rfl (by kernel_rfl) (by kernel_rfl) (by kernel_rfl) (fun _ _ _ h => h) (Or.inl ⟨by rfl, ?_⟩) (by exact hHeld) ?_
        rotate_left
        · intro wz hSz; (try dsimp only at hSz); go_simp; (try with_reducible rfl)
        try simp only [Act.put, List.setIfInBounds_toArray, List.set_cons_zero, List.set_cons_succ]
        refine wpAnyH_takeL (i := 5) (v := ?_) rfl (by kernel_rfl) (by kernel_rfl) (by kernel_rfl) (fun _ _ _ h => h) (Or.inl ⟨by rfl, ?_⟩) (by exact hHeld) ?_
        rotate_left
        · intro wz hSz; (try dsimp only at hSz); go_simp; (try with_reducible rfl)
        try simp only [Act.put, List.setIfInBounds_toArray, List.set_cons_zero, List.set_cons_succ]
        refine wpAnyH_takeL (i := 6) (v := ?_) rfl (by kernel_rfl) (by kernel_rfl) (by kernel_rfl) (fun _ _ _ h => h) (Or.inl ⟨by rfl, ?_⟩) (by exact hHeld) ?_
        rotate_left
        · intro wz hSz; (try dsimp only at hSz); go_simp; (try with_reducible rfl)
        try simp only [Act.put, List.setIfInBounds_toArray, List.set_cons_zero, List.set_cons_succ]
        refine wpAnyH_ready (rs := [2]) (by kernel_rfl) (by simp) ?_
        refine AllReadyH.consL rfl (fun K hK => ?_) AllReadyH.nil
        go_simp
        refine hK.out _ _ (Q9.out.alloc _) (fun hHeld => ?_)
        clear hK K
        try simp only [Act.put, List.setIfInBounds_toArray, List.set_cons_zero, List.set_cons_succ]
        refine wpAnyH_ready (rs := [3]) (by kernel_rfl) (by simp) ?_
        refine AllReadyH.consL rfl (fun K hK => ?_) AllReadyH.nil
        have HXx := Lib.hid ((own_below HO.out HW9.out).alloc (.cells #[.int .i64 6, .int .i64 q, .int .u32 pn, .int .u32 nx, .int .u64 tx, .string B] 40))
        have HWX := Lib.hid ((HW.out.trans (HW9.out.mono HW.out.size)).alloc (HW.out.trans (HW9.out.mono HW.out.size)).size (.cells #[.int .i64 6, .int .i64 q, .int .u32 pn, .int .u32 nx, .int .u64 tx, .string B] 40))
        refine step_append_any (by rfl) (.tmp 68) (.tmp 70) _ (by rfl) w2.heap.size 40 i0 _ 6 48 Try.underlying24 hi0 hz0 hz1 hz2 rfl (by omega) (.slice A' k c') k (pgcs (L.take k)) (by rfl) HXx.out.drew (w9.heap.size + 1) (some ⟨w9.heap.size, 0, none⟩) 1 1 (pgcs [⟨6, q, pn, nx, tx, B⟩]) (by rfl) (reads_own (n := 1) (Blk.new w9 _ _).drew rfl) (pgcs_one _) (by unfold maxLen; omega) (by omega) HWX.out.size ?_
        intro v5 w5 hown5 hg5 hat
        clear hat
        have HB5 := Lib.hid (show Blk w5 wr.heap.size 40 #[.int .i64 6, .int .i64 q, .int .u32 pn, .int .u32 nx, .int .u64 tx, .string B] from Blk.grown (Q9.out.alloc (.cells #[.int .i64 6, .int .i64 q, .int .u32 pn, .int .u32 nx, .int .u64 tx, .string B] 40)).drew hg5 (by intro h; have := own_base (own_below HO.out HW9.out) _ h.symm; have h2 := ((HO.out.lt _ h.symm)).2; have := HW4.out.size; omega))
        refine hK.out _ _ HB5.out (fun hHeld => ?_)
        clear hK K
        try simp only [Act.put, List.setIfInBounds_toArray, List.set_cons_zero, List.set_cons_succ]
        refine wpAnyH_takeL (i := 7) (v := ?_) rfl (by kernel_rfl) (by kernel_rfl) (by kernel_rfl) (fun _ _ _ h => h) (Or.inl ⟨by rfl, ?_⟩) (by exact hHeld) ?_
        rotate_left
        · intro wz hSz; (try dsimp only at hSz); go_simp; (try with_reducible rfl)
        try simp only [Act.put, List.setIfInBounds_toArray, List.set_cons_zero, List.set_cons_succ]
        refine wpAnyH_takeL (i := 8) (v := ?_) rfl (by kernel_rfl) (by kernel_rfl) (by kernel_rfl) (fun _ _ _ h => h) (Or.inl ⟨by rfl, ?_⟩) (by exact hHeld) ?_
        rotate_left
        · intro wz hSz; (try dsimp only at hSz); go_simp; (try with_reducible rfl)
        try simp only [Act.put, List.setIfInBounds_toArray, List.set_cons_zero, List.set_cons_succ]
        refine wpAnyH_done (by kernel_rfl) ?_ _
        rw [← pgcs_append, ← HTs.out] at hown5
        obtain ⟨A5, c5, rfl, _, _, _⟩ := own_form hown5
        have HO5 := Lib.hid hown5
        have HW5 := Lib.hid (HWX.out.drew.grown hg5 HWX.out.size (fun g hg => (HXx.out.lt g hg).1))
        clear hown5 hg5 hHeld
        go_wp2_with fail
        go_roundw
        case rel =>
          first
            | exact ⟨k + 1, r - q, cr - q, X2, A5, c5, by omega, by go_num, rfl, HR9, HC9, HX2, rfl, HO5, HW5⟩
            | ((repeat apply Exists.intro); exact ⟨⟨k + 1, r - q, cr - q, X2, A5, c5, by omega, by go_num, rfl, HR9, HC9, HX2, rfl, HO5, HW5⟩, rfl⟩)
        case measure => simp [intOf]; omega
    · obtain rfl : n = k := by omega
      have ht : L.take n = L := List.take_of_length_le (by rw [HLl.out]; exact Nat.le_refl _)
      rw [ht] at HO
      clear hlt ht
      have HBB := Lib.hid (HB2.out.trans (HW.out.mono HB2.out.size))
      go_wp2_with fail
      go_ret2
      exact ⟨A', n, c', rfl, Reads.of_own HO.out, HBB.out⟩
theorem rlists_any (size : Int) (tx : Nat) (A : Option Addr) (n c : Nat) (ps : List Nat) (A2 : Option Addr) (n2 c2 : Nat) (ns : List Nat) (w : World) (hr : Reads w w.heap.size 1 A n (ucells ps)) (hn : n ≤ 1000000) (hr2 : Reads w w.heap.size 1 A2 n2 (ucells ns)) (hn2 : n2 ≤ 1000000) (hcc : n2 ≤ c2) :
    Calls Try.prog 19 #[.int .i64 size, .int .u64 tx, .slice A n c, .slice A2 n2 c2] w (PgsPost (listsL size tx ps ns) w) := by
  rcases hg : goodSize size with _ | _
  · exact rlists_0 size tx A n c ps A2 n2 c2 ns w hr hn hr2 hn2 hg
  rcases h1 : (allU ns && ascU ns) with _ | _
  · exact rlists_1 size tx A n c ps A2 n2 c2 ns w hr hn hr2 hn2 hg h1
  by_cases h3 : ps.length < needF size ns.length
  · exact rlists_2 size tx A n c ps A2 n2 c2 ns w hr hn hr2 hn2 hg h1 h3
  rcases h4 : fineL ps with _ | _
  · exact rlists_3 size tx A n c ps A2 n2 c2 ns w hr hn hr2 hn2 hg h1 (by omega) h4
  by_cases h5 : 4611686018427387904 < tx
  · exact rlists_4 size tx A n c ps A2 n2 c2 ns w hr hn hr2 hn2 hg h1 (by omega) h4 h5
  have ho := listsL_yes (tx := tx) hg h1 (by omega) h4 (by omega)
  obtain ⟨z, rfl, _⟩ := good_nat hg
  rw [ho]
  exact rlists_yes z tx A n c ps A2 n2 c2 ns w hr hn hr2 hn2 hcc _ ho
end Go.Proofs.Ytabhhccdbfjigaa
