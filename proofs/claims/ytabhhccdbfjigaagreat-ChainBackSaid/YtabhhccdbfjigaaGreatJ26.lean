/-
  Contract of the reference's List of layer 11: free numbers read of their chain.
-/
import Derived.Test.YtabhhccdbfjigaaGreatJ25
import Derived.Test.YtabhhccdbfjigaaGreatJ7
namespace Go.Proofs.YtabhhccdbfjigaaGreat
open Go.RowKit
open Go.Lib hiding intOf
set_option linter.unusedVariables false
set_option linter.unusedSimpArgs false
attribute [local go_sem ↓] Go.wp_at_zero Go.wp_at_succ

theorem free_len {p : Pg} {l : List Nat} (h : p.free = some l) : l.length ≤ 1018 := by
  obtain ⟨h1, _⟩ := readU_some h
  simp only [mayP10, Bool.and_eq_true, decide_eq_true_eq] at h1
  exact Nat.le_trans h1.2.2.2.1 (mostN_le _)
theorem numV_front {L : List Pg} {k : Nat} (h : numV (L.take k) = none) : numV L = none := by
  have := numV_none h (L.drop k)
  rwa [List.take_append_drop] at this
def ldNs (o : Option (List Nat × List Nat)) : List Nat := (o.map (·.1)).getD []
def ldPs (o : Option (List Nat × List Nat)) : List Nat := (o.map (·.2)).getD []
def ldErr (size : Int) (o : Option (List Nat × List Nat)) : Int := if goodSize size then (if o.isSome then 0 else 4) else 2
/-- What List returns. -/
def ListPost (size : Int) (o : Option (List Nat × List Nat)) (w : World) (e : Ending) (w' : World) : Prop :=
  if goodSize size then ∃ A n c A2 n2 c2, e = .returned (.tuple #[.slice A n c, .slice A2 n2 c2, .int .i64 (ldErr size o)]) ∧ Reads w' w'.heap.size 1 A n (ucells (ldNs o)) ∧ Reads w' w'.heap.size 1 A2 n2 (ucells (ldPs o)) ∧ Below w.heap.size w w'
  else e = .returned (.tuple #[.slice none 0 0, .slice none 0 0, .int .i64 2]) ∧ Below w.heap.size w w'
theorem ListPost.no {size : Int} {w w' : World} (hg : goodSize size = true) (h : Below w.heap.size w w') : ListPost size none w (.returned (.tuple #[.slice none 0 0, .slice none 0 0, .int .i64 4])) w' := by
  unfold ListPost
  rw [if_pos hg]
  exact ⟨none, 0, 0, none, 0, 0, by rw [ldErr, if_pos hg] <;> rfl, Reads.none_, Reads.none_, h⟩
theorem ListPost.yes {size : Int} {w w' : World} {l m : List Nat} {A A2 : Option Addr} {n c n2 c2 : Nat} (hg : goodSize size = true) (h1 : Reads w' w'.heap.size 1 A n (ucells l)) (h2 : Reads w' w'.heap.size 1 A2 n2 (ucells m)) (h : Below w.heap.size w w') : ListPost size (some (l, m)) w (.returned (.tuple #[.slice A n c, .slice A2 n2 c2, .int .i64 0])) w' := by
  unfold ListPost
  rw [if_pos hg]
  exact ⟨A, n, c, A2, n2, c2, by rw [ldErr, if_pos hg] <;> rfl, h1, h2, h⟩
set_option maxRecDepth 100000 in
set_option maxHeartbeats 25600000 in
theorem rlist11_any (size : Int) (s : ByteArray) (head : Nat) (w : World) (hs : s.size ≤ 1000000) (hh : head < 4294967296) :
    Calls Tryz.prog 9 #[.int .i64 size, .string s, .int .u32 head] w (ListPost size (listV size s head) w) := by
  have HG := fun w => rgood_any size w
  rcases hg : goodSize size with _ | _
  · rw [hg] at HG
    have HP := Lib.hid (fun w' (h : Below w.heap.size w w') => show ListPost size (listV size s head) w (.returned (.tuple #[.slice none 0 0, .slice none 0 0, .int .i64 2])) w' by unfold ListPost; rw [if_neg (by rw [hg]; decide)]; exact ⟨rfl, h⟩)
    clear hg
    go_enter Tryz.func9, Tryz.ntmps9
    go_wp2_with (go_at_call 31; refine (HG _).mono ?_; rintro e w' ⟨rfl, rfl⟩)
    go_ret3
    exact HP.out _ (Below.refl _ _)
  rw [hg] at HG
  obtain ⟨i0, hi0, hz0, hz1, hz2⟩ := info_parts infoU32
  have HF := fun (w : World) => rfollow_any size s head 6 w hs hh
  obtain ⟨L, hL⟩ : ∃ L, L = chainL size s 6 head := ⟨_, rfl⟩
  have hmem : ∀ p, p ∈ L → p.bd.size ≤ 4072 := fun p hp => readAt_body (chain_mem (by rw [← hL]; exact hp)).1
  obtain ⟨o, ho⟩ : ∃ o, o = listV size s head := ⟨_, rfl⟩
  have hLs : L.length ≤ s.size := by
    have h1 := fresh_le (along_fresh (size := size) (s := s) (kd := 6) (head := head) s.size)
    rw [hL, chainL]
    exact Nat.le_trans h1 (Nat.div_le_self _ _)
  rw [← ho]
  rw [followL, ← hL] at HF
  have HOdef := Lib.hid (show o = if chainOk size s 6 head then (match numV L with | some l => if ascU l then some (l, L.map (·.pg)) else none | none => none) else none by rw [ho, listV, ← hL] <;> rfl)
  have HMem := Lib.hid hmem
  have HLs := Lib.hid (Nat.le_trans hLs hs)
  have HGd := Lib.hid hg
  clear hg hL ho hs hmem hLs
  obtain ⟨ok, hok⟩ : ∃ b, b = chainOk size s 6 head := ⟨_, rfl⟩
  rw [← hok] at HF HOdef
  clear hok
  go_enter Tryz.func9, Tryz.ntmps9
  go_wp2_with (go_at_call 31; refine (HG _).mono ?_; rintro e w' ⟨rfl, rfl⟩)
  refine (HF _).mono ?_
  rintro e w1 ⟨Al, nl, cl, rfl, hrl, hb⟩
  have HN := Lib.hid (show nl = L.length + (if ok then 0 else 1) by
    have h := lkc_len hrl
    rw [List.length_append, List.length_map] at h
    rw [← h]
    cases ok <;> rfl)
  have RL := Lib.hid hrl
  have HB := Lib.hid hb
  have HB1 := Lib.hid hb.size
  clear hrl hb HF HG
  go_wp2_with fail
  go_loopw [10, 11, 12] (fun v b i wr => ∃ (k N : Nat) (ns : List Nat) (A' : Option Addr) (c' : Nat) (A2 : Option Addr) (c2 : Nat), Hid (k ≤ L.length) ∧ k ≤ nl ∧ i = .int .i64 k ∧ v = .slice A2 N c2 ∧ Hid (numV (L.take k) = some ns) ∧ Hid (N ≤ k * 1018) ∧ b = .slice A' k c' ∧ Hid (wr.ownsRow w1.heap.size 22 1 (.slice A' k c') k (ucells ((L.take k).map (·.pg)))) ∧ Hid (wr.ownsRow w1.heap.size 22 1 (.slice A2 N c2) N (ucells ns)) ∧ Hid (Apart (.slice A2 N c2) (.slice A' k c')) ∧ Hid (Below w1.heap.size w1 wr) ∧ Hid (Below w.heap.size w wr)) (fun _ _ i _ => nl - (intOf i).toNat)
  case atStart => exact ⟨0, 0, [], none, 0, none, 0, Lib.hid (Nat.zero_le _), Nat.zero_le _, rfl, rfl, Lib.hid rfl, Lib.hid (Nat.zero_le _), rfl, Lib.hid (World.ownsRow_nil _ _ _ _), Lib.hid (World.ownsRow_nil _ _ _ _), Lib.hid (Apart.nil _), Lib.hid (Below.refl _ _), HB⟩
  case round =>
    clear HB
    obtain ⟨k, N, ns, A', c', A2, c2, HK, hk, rfl, rfl, HV, HS, rfl, HO, HO2, HAp, HW, HB⟩ := hrel
    have hk9 : k ≤ 1000000 := Nat.le_trans HK.out HLs.out
    have hN9 : N ≤ 1018000000 := by have := HS.out; omega
    by_cases hlt : k < nl
    · obtain ⟨ad, y, rfl, _, hy7, _⟩ := link_at (RL.out.below HW.out) hlt
      have hj0 : (0 : Int) ≤ k := by omega
      have hj1 : (k : Int) < nl := by omega
      by_cases hkL : k < L.length
      rotate_left
      · have hkk : k = L.length := by have := HK.out; omega
        have hokf : ok = false := by
          cases ok
          · rfl
          · have := HN.out
            simp at this
            omega
        have hy9 := hy7
        rw [hokf, List.getElem?_append_right (by rw [List.length_map]; omega), List.length_map, show k - L.length = 0 by omega] at hy7
        injection hy7 with hy7
        subst hy7
        have HY := Lib.hid hy9
        obtain rfl : o = none := by rw [HOdef.out, hokf]; rfl
        have HOf := fun w => rof10_any 0 0 0 0 0 ByteArray.empty w (by decide)
        rw [show readU 0 0 0 0 0 ByteArray.empty = none by decide +kernel] at HOf
        obtain ⟨⟨d0, d1, d2, d3, d4, d5⟩, d6⟩ := link_cells (RL.out.below HW.out) hlt HY.out
        simp only [Pg.zero] at d0 d1 d2 d3 d4 d5 d6
        clear hkk hy9 hokf
        go_wp2_with fail
        refine (HOf _).mono ?_
        rintro e w2 ⟨rfl, hb⟩
        replace HW := Lib.hid (HW.out.trans (hb.mono HW.out.size))
        replace HB := Lib.hid (HB.out.trans (hb.mono HB.out.size))
        clear hb HOf d0 d1 d2 d3 d4 d5 d6
        obtain ⟨_, d6⟩ := link_cells (RL.out.below HW.out) hlt HY.out
        go_wp2_with fail
        go_ret3
        exact ListPost.no HGd.out HB.out
      · have hy9 := hy7
        rw [List.getElem?_append_left (by rw [List.length_map]; exact hkL)] at hy7
        obtain ⟨p, hp, rfl⟩ := map_lk_at hy7
        have HY := Lib.hid hy9
        have hpb := HMem.out p (List.mem_of_getElem? hp)
        have htk := take_snoc_at hp
        obtain ⟨⟨d0, d1, d2, d3, d4, d5⟩, d6⟩ := link_cells (RL.out.below HW.out) hlt HY.out
        have hvs := numV_snoc (L.take k) p
        rw [← htk, HV.out] at hvs
        have hps := fun v (h : p.free = some v) => free_len h
        obtain ⟨pk, pc, pn, pl, pt, pb⟩ := p
        have HOf := fun w => rof10_own pk pc pn pl pt pb w (Nat.le_trans hpb (by decide))
        simp only at d0 d1 d2 d3 d4 d5 d6 hpb
        have hov : Pg.free ⟨pk, pc, pn, pl, pt, pb⟩ = readU pk pc pn pl pt pb := rfl
        rw [hov] at hvs hps
        have HTk := Lib.hid htk
        clear hy9 hy7 htk hp hov
        rcases hro : readU pk pc pn pl pt pb with _ | l2
        · rw [hro] at HOf hvs
          obtain rfl : o = none := by rw [HOdef.out, numV_front hvs]; cases ok <;> rfl
          clear hvs hps hro
          go_wp2_with fail
          refine (HOf _).mono ?_
          rintro e w2 ⟨rfl, hb⟩
          replace HW := Lib.hid (HW.out.trans (hb.mono HW.out.size))
          replace HB := Lib.hid (HB.out.trans (hb.mono HB.out.size))
          clear hb HOf d0 d1 d2 d3 d4 d5 d6
          obtain ⟨_, d6⟩ := link_cells (RL.out.below HW.out) hlt HY.out
          go_wp2_with fail
          go_ret3
          exact ListPost.no HGd.out HB.out
        · rw [hro] at HOf hvs
          have hs2 := hps l2 hro
          have HV2 := Lib.hid hvs
          clear hvs hps hro
          go_wp2_with fail
          refine (HOf _).mono ?_
          rintro e w2 ⟨A5, m, c5, rfl, hown5, hb⟩
          have hm9 : m ≤ 1018 := by have h := hown5.1; rw [ucells_length] at h; omega
          have HS2 := Lib.hid (show N + m ≤ (k + 1) * 1018 by have := HS.out; omega)
          have HP5 := Lib.hid (Apart.older HO.out hown5 (Nat.le_refl _))
          have HP2 := Lib.hid (Apart.older HO2.out hown5 (Nat.le_refl _))
          replace HW := Lib.hid (HW.out.trans (hb.mono HW.out.size))
          replace HB := Lib.hid (HB.out.trans (hb.mono HB.out.size))
          replace HO := Lib.hid (own_below HO.out hb)
          replace HO2 := Lib.hid (own_below HO2.out hb)
          have HO5 := Lib.hid hown5
          clear hb hown5 HOf d0 d1 d2 d3 d4 d5 d6
          obtain ⟨⟨_, _, d2, _, _, _⟩, d6⟩ := link_cells (RL.out.below HW.out) hlt HY.out
          simp only at d2 d6
          go_upto_region 11 with fail
          have hpn : w2.cell? { block := (ad.add (k * 7)).block, off := (ad.add (k * 7)).off + 2 } = some (.int .u32 pn) := d2
          refine wp_region_held_drew (S := fun w' => w'.cell? { block := (ad.add (k * 7)).block, off := (ad.add (k * 7)).off + 2 } = some (.int .u32 pn)) (by kernel_rfl) (d2) (fun _ => ?_)
          have hHeld := d2
          refine wpAnyH_takeL (i := 0) (v := ?_) rfl (by kernel_rfl) (by kernel_rfl) (by kernel_rfl) (fun _ _ _ h => h) (Or.inl ⟨by rfl, ?_⟩) (by exact hHeld) ?_
          rotate_left
          · intro wz hSz; (try dsimp only at hSz); go_simp; (try with_reducible rfl)
          try simp only [Act.put, List.setIfInBounds_toArray, List.set_cons_zero, List.set_cons_succ]
          refine wpAnyH_takeL (i := 1) (v := ?_) rfl (by kernel_rfl) (by kernel_rfl) (by kernel_rfl) (fun _ _ _ h => h) (Or.inl ⟨by rfl, ?_⟩) (by exact hHeld) ?_
          rotate_left
          · intro wz hSz; (try dsimp only at hSz); go_simp; (try with_reducible rfl)
          try simp only [Act.put, List.setIfInBounds_toArray, List.set_cons_zero, List.set_cons_succ]
          refine wpAnyH_takeL (i := 3) (v := ?_) rfl (by kernel_rfl) (by kernel_rfl) (by kernel_rfl) (fun _ _ _ h => h) (Or.inl ⟨by rfl, ?_⟩) (by exact hHeld) ?_
          rotate_left
          · intro wz hSz; (try dsimp only at hSz); go_simp; (try with_reducible rfl)
          try simp only [Act.put, List.setIfInBounds_toArray, List.set_cons_zero, List.set_cons_succ]
          refine wpAnyH_takeL (i := 4) (v := ?_) rfl (by kernel_rfl) (by kernel_rfl) (by kernel_rfl) (fun _ _ _ h => h) (Or.inl ⟨by rfl, ?_⟩) (by exact hHeld) ?_
          rotate_left
          · intro wz hSz; (try dsimp only at hSz); go_simp; (try with_reducible rfl)
          try simp only [Act.put, List.setIfInBounds_toArray, List.set_cons_zero, List.set_cons_succ]
          refine wpAnyH_takeL (i := 5) (v := ?_) rfl (by kernel_rfl) (by kernel_rfl) (by kernel_rfl) (fun _ _ _ h => h) (Or.inl ⟨by rfl, ?_⟩) (by exact hHeld) ?_
          rotate_left
          · intro wz hSz; (try dsimp only at hSz); go_simp; (try with_reducible rfl)
          try simp only [Act.put, List.setIfInBounds_toArray, List.set_cons_zero, List.set_cons_succ]
          refine wpAnyH_takeL (i := 6) (v := ?_) rfl (by kernel_rfl) (by kernel_rfl) (by kernel_rfl) (fun _ _ _ h => h) (Or.inl ⟨by rfl, ?_⟩) (by exact hHeld) ?_
          rotate_left
          · intro wz hSz; (try dsimp only at hSz); go_simp; (try with_reducible rfl)
          try simp only [Act.put, List.setIfInBounds_toArray, List.set_cons_zero, List.set_cons_succ]
          refine wpAnyH_takeL (i := 7) (v := ?_) rfl (by kernel_rfl) (by kernel_rfl) (by kernel_rfl) (fun _ _ _ h => h) (Or.inl ⟨by rfl, ?_⟩) (by exact hHeld) ?_
          rotate_left
          · intro wz hSz; (try dsimp only at hSz); go_simp; (try with_reducible rfl)
          try simp only [Act.put, List.setIfInBounds_toArray, List.set_cons_zero, List.set_cons_succ]
          refine wpAnyH_takeL (i := 8) (v := ?_) rfl (by kernel_rfl) (by kernel_rfl) (by kernel_rfl) (fun _ _ _ h => h) (Or.inl ⟨by rfl, ?_⟩) (by exact hHeld) ?_
          rotate_left
          · intro wz hSz; (try dsimp only at hSz); go_simp; (try with_reducible rfl)
          try simp only [Act.put, List.setIfInBounds_toArray, List.set_cons_zero, List.set_cons_succ]
          refine wpAnyH_takeL (i := 9) (v := ?_) rfl (by kernel_rfl) (by kernel_rfl) (by kernel_rfl) (fun _ _ _ h => h) (Or.inl ⟨by rfl, ?_⟩) (by exact hHeld) ?_
          rotate_left
          · intro wz hSz; (try dsimp only at hSz); go_simp; (try with_reducible rfl)
          try simp only [Act.put, List.setIfInBounds_toArray, List.set_cons_zero, List.set_cons_succ]
          refine wpAnyH_ready (rs := [2, 10]) (by kernel_rfl) (by simp) ?_
          refine AllReadyH.consL rfl (fun K hK => ?_) (AllReadyH.consL rfl (fun K hK => ?_) AllReadyH.nil)
          · skip
            refine step_append_any (by rfl) (.tmp 49) (.tmp 50) _ (by rfl) w1.heap.size 22 i0 _ 1 4 Tryz.underlying24 hi0 hz0 hz1 hz2 rfl (by omega) (.slice A2 N c2) N (ucells ns) (by rfl) HO2.out.drew w2.heap.size A5 m c5 (ucells l2) (by rfl) (Reads.of_own HO5.out).drew (ucells_one _) (by unfold maxLen; omega) (by omega) HW.out.size ?_
            intro v3 w3 hown3 hg3 hat3
            have HW3 := Lib.hid ((HW.out.drew).grown hg3 (HW.out.drew).size (fun g hg => (HO2.out.lt g hg).1))
            have HB3 := Lib.hid ((HB.out.drew).grown hg3 (HB.out.drew).size (fun g hg => Nat.le_trans HB1.out (HO2.out.lt g hg).1))
            have HO3 := Lib.hid (HAp.out.keeps (HO.out.drew) hg3)
            have HAp3 := Lib.hid (HAp.out.grow (HO.out.drew) hat3)
            have hd3 : w3.cell? { block := (ad.add (k * 7)).block, off := (ad.add (k * 7)).off + 2 } = some (.int .u32 pn) := by
              obtain ⟨⟨_, _, dd, _, _, _⟩, _⟩ := link_cells (RL.out.below HW3.out) hlt HY.out
              exact dd
            skip
            refine hK.out _ _ (hd3) (fun hHeld => ?_)
            clear hK K
            try simp only [Act.put, List.setIfInBounds_toArray, List.set_cons_zero, List.set_cons_succ]
            refine wpAnyH_ready (rs := [10]) (by kernel_rfl) (by simp) ?_
            refine AllReadyH.consL rfl (fun K hK => ?_) AllReadyH.nil
            go_simp
            refine hK.out _ _ (by obtain ⟨⟨_, _, dd, _, _, _⟩, _⟩ := link_cells (RL.out.below (HW3.out.alloc HW3.out.size (.cells #[.int .u32 pn] 22))) hlt HY.out; exact dd) (fun hHeld => ?_)
            clear hK K
            try simp only [Act.put, List.setIfInBounds_toArray, List.set_cons_zero, List.set_cons_succ]
            refine wpAnyH_ready (rs := [11]) (by kernel_rfl) (by simp) ?_
            refine AllReadyH.consL rfl (fun K hK => ?_) AllReadyH.nil
            refine step_append_any (by rfl) (.tmp 52) (.tmp 59) _ (by rfl) w1.heap.size 22 i0 _ 1 4 Tryz.underlying24 hi0 hz0 hz1 hz2 rfl (by omega) (.slice A' k c') k (ucells ((L.take k).map (·.pg))) (by rfl) (HO3.out.alloc (.cells #[.int .u32 pn] 22)) (w3.heap.size + 1) (some ⟨w3.heap.size, 0, none⟩) 1 1 (ucells [pn]) (by rfl) (reads_own (n := 1) (Blk.new _ _ _) rfl) (ucells_one _) (by unfold maxLen; omega) (by omega) (HW3.out.alloc HW3.out.size (.cells #[.int .u32 pn] 22)).size ?_
            intro v4 w4 hown4 hg4 hat4
            have HW9 := Lib.hid ((HW3.out.alloc HW3.out.size (.cells #[.int .u32 pn] 22)).grown hg4 (HW3.out.alloc HW3.out.size (.cells #[.int .u32 pn] 22)).size (fun g hg => (HO3.out.lt g hg).1))
            have HB9 := Lib.hid ((HB3.out.alloc HB3.out.size (.cells #[.int .u32 pn] 22)).grown hg4 (HB3.out.alloc HB3.out.size (.cells #[.int .u32 pn] 22)).size (fun g hg => Nat.le_trans HB1.out (HO3.out.lt g hg).1))
            have HV9 := Lib.hid (HAp3.out.symm.keeps (hown3.alloc (.cells #[.int .u32 pn] 22)) hg4)
            have HAp9 := Lib.hid ((HAp3.out.symm.grow (hown3.alloc (.cells #[.int .u32 pn] 22)) hat4).symm)
            refine hK.out _ _ (by obtain ⟨⟨_, _, dd, _, _, _⟩, _⟩ := link_cells (RL.out.below HW9.out) hlt HY.out; exact dd) (fun hHeld => ?_)
            clear hK K
            try simp only [Act.put, List.setIfInBounds_toArray, List.set_cons_zero, List.set_cons_succ]
            refine wpAnyH_takeL (i := 12) (v := ?_) rfl (by kernel_rfl) (by kernel_rfl) (by kernel_rfl) (fun _ _ _ h => h) (Or.inl ⟨by rfl, ?_⟩) (by exact hHeld) ?_
            rotate_left
            · intro wz hSz; (try dsimp only at hSz); go_simp; (try with_reducible rfl)
            try simp only [Act.put, List.setIfInBounds_toArray, List.set_cons_zero, List.set_cons_succ]
            refine wpAnyH_takeL (i := 13) (v := ?_) rfl (by kernel_rfl) (by kernel_rfl) (by kernel_rfl) (fun _ _ _ h => h) (Or.inl ⟨by rfl, ?_⟩) (by exact hHeld) ?_
            rotate_left
            · intro wz hSz; (try dsimp only at hSz); go_simp; (try with_reducible rfl)
            try simp only [Act.put, List.setIfInBounds_toArray, List.set_cons_zero, List.set_cons_succ]
            refine wpAnyH_done (by kernel_rfl) ?_ _
            rw [← ucells_append] at HV9
            rw [← ucells_append, show (L.take k).map (·.pg) ++ [pn] = (L.take (k + 1)).map (·.pg) by rw [HTk.out, List.map_append]; rfl] at hown4
            obtain ⟨A9, c9, rfl, _, _, _⟩ := own_form hown4
            obtain ⟨A8, c8, rfl, _, _, _⟩ := own_form HV9.out
            have HO9 := Lib.hid hown4
            clear hown4 hHeld HO5 HO HO2 HB HW
            go_wp2_with fail
            go_roundw
            case rel =>
              first
                | exact ⟨k + 1, N + m, _, A9, c9, A8, c8, hkL, by omega, by go_num, rfl, HV2, HS2, rfl, HO9, HV9, HAp9, HW9, HB9⟩
                | ((repeat apply Exists.intro); exact ⟨⟨k + 1, N + m, _, A9, c9, A8, c8, hkL, by omega, by go_num, rfl, HV2, HS2, rfl, HO9, HV9, HAp9, HW9, HB9⟩, rfl⟩)
            case measure => simp [intOf]; omega
          · skip
            go_simp
            refine hK.out _ _ (by obtain ⟨⟨_, _, dd, _, _, _⟩, _⟩ := link_cells (RL.out.below (HW.out.alloc HW.out.size (.cells #[.int .u32 pn] 22))) hlt HY.out; exact dd) (fun hHeld => ?_)
            clear hK K
            try simp only [Act.put, List.setIfInBounds_toArray, List.set_cons_zero, List.set_cons_succ]
            refine wpAnyH_ready (rs := [2]) (by kernel_rfl) (by simp) ?_
            refine AllReadyH.consL rfl (fun K hK => ?_) AllReadyH.nil
            refine step_append_any (by rfl) (.tmp 49) (.tmp 50) _ (by rfl) w1.heap.size 22 i0 _ 1 4 Tryz.underlying24 hi0 hz0 hz1 hz2 rfl (by omega) (.slice A2 N c2) N (ucells ns) (by rfl) (HO2.out.alloc (.cells #[.int .u32 pn] 22)).drew (w2.heap.size + 1) A5 m c5 (ucells l2) (by rfl) (((Reads.of_own HO5.out).alloc (Nat.le_refl _) (.cells #[.int .u32 pn] 22)).more (Nat.le_succ _)).drew (ucells_one _) (by unfold maxLen; omega) (by omega) (HW.out.alloc HW.out.size (.cells #[.int .u32 pn] 22)).size ?_
            intro v3 w3 hown3 hg3 hat3
            have HW3 := Lib.hid (((HW.out.alloc HW.out.size (.cells #[.int .u32 pn] 22)).drew).grown hg3 ((HW.out.alloc HW.out.size (.cells #[.int .u32 pn] 22)).drew).size (fun g hg => (HO2.out.lt g hg).1))
            have HB3 := Lib.hid (((HB.out.alloc HB.out.size (.cells #[.int .u32 pn] 22)).drew).grown hg3 ((HB.out.alloc HB.out.size (.cells #[.int .u32 pn] 22)).drew).size (fun g hg => Nat.le_trans HB1.out (HO2.out.lt g hg).1))
            have HO3 := Lib.hid (HAp.out.keeps ((HO.out.alloc (.cells #[.int .u32 pn] 22)).drew) hg3)
            have HAp3 := Lib.hid (HAp.out.grow ((HO.out.alloc (.cells #[.int .u32 pn] 22)).drew) hat3)
            have hd3 : w3.cell? { block := (ad.add (k * 7)).block, off := (ad.add (k * 7)).off + 2 } = some (.int .u32 pn) := by
              obtain ⟨⟨_, _, dd, _, _, _⟩, _⟩ := link_cells (RL.out.below HW3.out) hlt HY.out
              exact dd
            have HL3 := Lib.hid (show Reads w3 w3.heap.size 1 (some ⟨w2.heap.size, 0, none⟩) 1 (ucells [pn]) from reads_own (n := 1) (Blk.grown (Blk.new w2 22 #[.int .u32 pn]).drew hg3 (by intro h; have := (HO2.out.lt _ h.symm).2; omega)) rfl |>.more (Nat.le_trans (by simp) hg3.size))
            skip
            refine hK.out _ _ (hd3) (fun hHeld => ?_)
            clear hK K
            try simp only [Act.put, List.setIfInBounds_toArray, List.set_cons_zero, List.set_cons_succ]
            refine wpAnyH_ready (rs := [11]) (by kernel_rfl) (by simp) ?_
            refine AllReadyH.consL rfl (fun K hK => ?_) AllReadyH.nil
            refine step_append_any (by rfl) (.tmp 52) (.tmp 59) _ (by rfl) w1.heap.size 22 i0 _ 1 4 Tryz.underlying24 hi0 hz0 hz1 hz2 rfl (by omega) (.slice A' k c') k (ucells ((L.take k).map (·.pg))) (by rfl) HO3.out w3.heap.size (some ⟨w2.heap.size, 0, none⟩) 1 1 (ucells [pn]) (by rfl) HL3.out (ucells_one _) (by unfold maxLen; omega) (by omega) HW3.out.size ?_
            intro v4 w4 hown4 hg4 hat4
            have HW9 := Lib.hid (HW3.out.grown hg4 HW3.out.size (fun g hg => (HO3.out.lt g hg).1))
            have HB9 := Lib.hid (HB3.out.grown hg4 HB3.out.size (fun g hg => Nat.le_trans HB1.out (HO3.out.lt g hg).1))
            have HV9 := Lib.hid (HAp3.out.symm.keeps hown3 hg4)
            have HAp9 := Lib.hid ((HAp3.out.symm.grow hown3 hat4).symm)
            refine hK.out _ _ (by obtain ⟨⟨_, _, dd, _, _, _⟩, _⟩ := link_cells (RL.out.below HW9.out) hlt HY.out; exact dd) (fun hHeld => ?_)
            clear hK K
            try simp only [Act.put, List.setIfInBounds_toArray, List.set_cons_zero, List.set_cons_succ]
            refine wpAnyH_takeL (i := 12) (v := ?_) rfl (by kernel_rfl) (by kernel_rfl) (by kernel_rfl) (fun _ _ _ h => h) (Or.inl ⟨by rfl, ?_⟩) (by exact hHeld) ?_
            rotate_left
            · intro wz hSz; (try dsimp only at hSz); go_simp; (try with_reducible rfl)
            try simp only [Act.put, List.setIfInBounds_toArray, List.set_cons_zero, List.set_cons_succ]
            refine wpAnyH_takeL (i := 13) (v := ?_) rfl (by kernel_rfl) (by kernel_rfl) (by kernel_rfl) (fun _ _ _ h => h) (Or.inl ⟨by rfl, ?_⟩) (by exact hHeld) ?_
            rotate_left
            · intro wz hSz; (try dsimp only at hSz); go_simp; (try with_reducible rfl)
            try simp only [Act.put, List.setIfInBounds_toArray, List.set_cons_zero, List.set_cons_succ]
            refine wpAnyH_done (by kernel_rfl) ?_ _
            rw [← ucells_append] at HV9
            rw [← ucells_append, show (L.take k).map (·.pg) ++ [pn] = (L.take (k + 1)).map (·.pg) by rw [HTk.out, List.map_append]; rfl] at hown4
            obtain ⟨A9, c9, rfl, _, _, _⟩ := own_form hown4
            obtain ⟨A8, c8, rfl, _, _, _⟩ := own_form HV9.out
            have HO9 := Lib.hid hown4
            clear hown4 hHeld HO5 HO HO2 HB HW
            go_wp2_with fail
            go_roundw
            case rel =>
              first
                | exact ⟨k + 1, N + m, _, A9, c9, A8, c8, hkL, by omega, by go_num, rfl, HV2, HS2, rfl, HO9, HV9, HAp9, HW9, HB9⟩
                | ((repeat apply Exists.intro); exact ⟨⟨k + 1, N + m, _, A9, c9, A8, c8, hkL, by omega, by go_num, rfl, HV2, HS2, rfl, HO9, HV9, HAp9, HW9, HB9⟩, rfl⟩)
            case measure => simp [intOf]; omega
    · obtain rfl : k = nl := by omega
      have hkL : k = L.length ∧ ok = true := by
        have h1 := HN.out
        have h2 := HK.out
        cases ok
        · simp at h1; omega
        · simp at h1; exact ⟨h1, rfl⟩
      obtain ⟨hkL, rfl⟩ := hkL
      have ht : L.take k = L := List.take_of_length_le (by omega)
      rw [ht] at HV HO
      have HO9 := Lib.hid (show o = if ascU ns then some (ns, L.map (·.pg)) else none by rw [HOdef.out, HV.out] <;> rfl)
      clear ht hkL hlt
      go_wp2_with fail
      refine (rrises_any A2 N c2 ns _ (Reads.of_own HO2.out) (by unfold maxLen; omega)).mono ?_
      rintro e w5 ⟨rfl, q, hq⟩
      have HB5 := Lib.hid (show Below w.heap.size w w5 by rw [hq]; exact below_drewN HB.out q)
      have HR1 := Lib.hid (show Reads w5 w5.heap.size 1 A2 N (ucells ns) by rw [hq]; exact (Reads.of_own HO2.out).drewN q)
      have HR2 := Lib.hid (show Reads w5 w5.heap.size 1 A' k (ucells (L.map (·.pg))) by rw [hq]; exact (Reads.of_own HO.out).drewN q)
      clear hq
      rcases hasc : ascU ns with _ | _
      · obtain rfl : o = none := by rw [HO9.out, hasc]; rfl
        go_wp2_with fail
        go_ret3
        exact ListPost.no HGd.out HB5.out
      · obtain rfl : o = some (ns, L.map (·.pg)) := by rw [HO9.out, hasc]; rfl
        go_wp2_with fail
        go_ret3
        exact ListPost.yes HGd.out HR1.out HR2.out HB5.out
end Go.Proofs.YtabhhccdbfjigaaGreat
