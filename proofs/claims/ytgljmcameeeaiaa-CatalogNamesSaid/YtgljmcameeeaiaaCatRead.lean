/-
  Contracts of catalog.read and catalog.Of.
-/
import Derived.Test.YtgljmcameeeaiaaCatNext
import Derived.Deep.CutRange
namespace Go.Proofs.Ytgljmcameeeaiaa
open Go.RowKit
open Go.Lib hiding intOf
set_option linter.unusedVariables false
set_option linter.unusedSimpArgs false
attribute [local go_sem ↓] Go.wp_at_zero Go.wp_at_succ

/-- What read makes of a body. -/
def readL (ct : Int) (bd : ByteArray) : List Bk := match parseB ct.toNat bd.data.toList with
  | none => []
  | some (l, _) => l
set_option maxRecDepth 100000 in
set_option maxHeartbeats 12800000 in
theorem cread_any (kd ct : Int) (pg lk ty : Nat) (bd : ByteArray) (w : World) (hbd : bd.size ≤ 100000) :
    Calls Try.prog 34 #[.agg #[.int .i64 kd, .int .i64 ct, .int .u32 pg, .int .u32 lk, .int .u64 ty, .string bd]] w fun e w' => ∃ A n c, e = .returned (.slice A n c) ∧ Reads w' w'.heap.size 3 A n (bkc (readL ct bd)) ∧ n ≤ c ∧ c ≤ maxLen ∧ Below w.heap.size w w' := by
  have Hbd := Lib.hid hbd
  obtain ⟨i0, hi0, hz0, hz1, hz2⟩ := info_parts infoBk
  obtain ⟨w0, hw0⟩ : ∃ x, x = w.alloc (.cells #[.int .i64 kd, .int .i64 ct, .int .u32 pg, .int .u32 lk, .int .u64 ty, .string bd] 26) := ⟨_, rfl⟩
  have Pp := Lib.hid (show Blk w0 w.heap.size 26 #[.int .i64 kd, .int .i64 ct, .int .u32 pg, .int .u32 lk, .int .u64 ty, .string bd] by rw [hw0]; exact Blk.new _ _ _)
  have HB := Lib.hid (show Below w.heap.size w w0 by rw [hw0]; exact (Below.refl _ _).alloc (Nat.le_refl _) _)
  go_enter Try.func34, Try.ntmps34
  go_upto_region 2 with fail
  rw [← hw0]
  clear hw0 hbd
  have p5 := Pp.out.cell 5
  simp at p5
  go_wp2_with fail
  refine (new_any' bd _).mono ?_
  rintro e w1 ⟨rfl, hrf, hb, hlt1⟩
  have hpg := Lib.hid Pp.out.lt
  replace Pp := Lib.hid (Pp.out.below hb Pp.out.lt)
  replace HB := Lib.hid (HB.out.trans (hb.mono HB.out.size))
  have HF := Lib.hid hrf
  clear hb hrf hlt1 p5
  generalize w0.heap.size = g at *
  have p1 := Pp.out.cell 1
  simp at p1
  go_wp2_with fail
  clear p1
  go_loopw [3, 5, 6, 12, 14] (fun v _ _ i _ wr => ∃ (k : Nat) (A : Option Addr) (c : Nat) (l : List Bk) (r : List UInt8) (s : ByteArray), k ≤ ct.toNat ∧ i = .int .i64 k ∧ v = .slice A k c ∧ Hid (parseB k bd.data.toList = some (l, r)) ∧ Hid (s.data.toList = r) ∧ Hid (IsRd wr g s) ∧ Hid (wr.ownsRow (g + 1) 33 3 (.slice A k c) k (bkc l)) ∧ Hid (Below w.heap.size w wr)) (fun _ _ _ i _ _ => ct.toNat - (intOf i).toNat)
  case atStart => exact ⟨0, none, 0, [], _, bd, Nat.zero_le _, rfl, rfl, Lib.hid rfl, Lib.hid rfl, HF, Lib.hid (World.ownsRow_nil _ _ _ _), HB⟩
  case round =>
    clear HF HB Pp
    obtain ⟨k, A, c, l, r, s, hk, rfl, rfl, HPr, HSr, HF, HO, HB⟩ := hrel
    have hk9 : k ≤ 100000 := by
      have h1 := parseB_size HPr.out
      have h2 := nine_le l
      rw [parseB_len HPr.out] at h2
      rw [size_list] at h1
      have h3 := Hbd.out
      omega
    by_cases hlt : (k : Int) < ct
    · have hkc : k + 1 ≤ ct.toNat := by omega
      go_wp2_with fail
      refine (cnext_any HF.out).mono ?_
      rintro e w2 ⟨nm, rt, kn, x, s', rfl, hf, hg, hnx⟩
      have hbl := below_of_grown hg (Nat.le_of_lt hpg.out) HB.out.size
      replace HB := Lib.hid (HB.out.trans hbl)
      replace HO := Lib.hid (HO.out.kept hg (own_apart HO.out (Nat.lt_succ_self g)))
      replace HF := Lib.hid hf
      clear hf hg hbl
      rcases hst : stepB r with _ | ⟨b, r'⟩
      · have hx0 : x ≠ 0 := by
          have h1 := hnx
          unfold nextOk at h1
          rw [HSr.out, hst] at h1
          exact h1
        have hx1 : (x != 0) = true := by simp [hx0]
        have hx2 : (x == 0) = false := by simp [hx0]
        have HE := Lib.hid (show readL ct bd = [] by
          have h1 := parseB_none (parseB_stop HPr.out hst) (ct.toNat - (k + 1))
          rw [show k + 1 + (ct.toNat - (k + 1)) = ct.toNat by omega] at h1
          rw [readL, h1])
        have HB2 := Lib.hid (HB.out.alloc HB.out.size (.cells #[.string nm, .int .u32 rt, .int .i64 kn] 33))
        clear hnx hst
        go_wp2_with fail
        go_ret
        rw [HE.out]
        exact ⟨none, 0, 0, rfl, Reads.none_, Nat.le_refl _, by simp [maxLen], HB2.out⟩
      · obtain ⟨hx0, hbk, hsr⟩ : x = 0 ∧ b = ⟨nm, rt, (kn : Int)⟩ ∧ s'.data.toList = r' := by
          have h1 := hnx
          unfold nextOk at h1
          rw [HSr.out, hst] at h1
          exact h1
        subst hx0
        have HPr2 := Lib.hid (parseB_step HPr.out hst)
        have HSr2 := Lib.hid hsr
        have HBk := Lib.hid hbk
        clear hnx hst hsr hbk
        obtain ⟨w3, hw3⟩ : ∃ x, x = w2.alloc (.cells #[.string nm, .int .u32 rt, .int .i64 kn] 33) := ⟨_, rfl⟩
        have M := Lib.hid (show Blk w3 w2.heap.size 33 #[.string nm, .int .u32 rt, .int .i64 kn] by rw [hw3]; exact Blk.new _ _ _)
        replace HB := Lib.hid (show Below w.heap.size w w3 by rw [hw3]; exact HB.out.alloc HB.out.size _)
        replace HO := Lib.hid (show w3.ownsRow (g + 1) 33 3 (.slice A k c) k (bkc l) by rw [hw3]; exact HO.out.alloc _)
        replace HF := Lib.hid (show IsRd w3 g s' by rw [hw3]; exact Blk.alloc HF.out _)
        go_upto_region 8 with fail
        rw [← hw3]
        clear hw3
        generalize w2.heap.size = gM at *
        have m0 := M.out.cell 0
        have m1 := M.out.cell 1
        have m2 := M.out.cell 2
        simp at m0 m1 m2
        have HA := Lib.hid (HO.out.alloc (.cells #[.string nm, .int .u32 rt, .int .i64 kn] 33))
        have hgl : g + 1 ≤ w3.heap.size := Blk.lt HF.out
        have HB3 := Lib.hid (HB.out.alloc HB.out.size (.cells #[.string nm, .int .u32 rt, .int .i64 kn] 33))
        have HF3 := Lib.hid (show IsRd (w3.alloc (.cells #[.string nm, .int .u32 rt, .int .i64 kn] 33)) g s' from Blk.alloc HF.out _)
        go_upto_region 9 with (at_builtin; refine wpList_append_any _ rfl (.tmp 21) (.tmp 23) _ rfl (g + 1) 33 i0 _ 3 32 Try.underlying30 hi0 hz0 hz1 hz2 rfl (by omega) _ k _ rfl HA.out (w3.heap.size + 1) (some ⟨w3.heap.size, 0, none⟩) 1 1 (Bk.cells ⟨nm, rt, kn⟩) rfl (reads_own (n := 1) (Blk.new _ _ _) rfl) (bk_one _) (by unfold maxLen; omega) (by omega) (by simp; omega) ?_; intro v4 w4 hown4 hg4 _)
        rw [bkc_snoc] at hown4
        obtain ⟨A4, c4, rfl, _, _, _⟩ := own_form hown4
        have HO4 := Lib.hid hown4
        have HF4 := Lib.hid (show IsRd w4 g s' from Blk.grown HF3.out hg4 (own_ne HA.out (Nat.lt_succ_self g)))
        have HB4 := Lib.hid (HB3.out.grown hg4 HB3.out.size (fun j hj => by have h1 := (HA.out.lt j hj).1; have h2 := hpg.out; omega))
        have HP4 := Lib.hid (show parseB (k + 1) bd.data.toList = some (l ++ [⟨nm, rt, (kn : Int)⟩], r') by rw [HPr2.out, HBk.out])
        clear hown4 hg4 m0 m1 m2 HA HB3 HF3 M HO HF HB
        go_wp2_with fail
        go_roundw
        case rel =>
          first
            | exact ⟨k + 1, A4, c4, _, r', s', by omega, by go_num, rfl, HP4, HSr2, HF4, HO4, HB4⟩
            | ((repeat apply Exists.intro); exact ⟨⟨k + 1, A4, c4, _, r', s', by omega, by go_num, rfl, HP4, HSr2, HF4, HO4, HB4⟩, rfl⟩)
        case measure => simp [intOf]; omega
    · have hkc : k = ct.toNat := by omega
      have HE := Lib.hid (show readL ct bd = l by rw [readL, ← hkc, HPr.out])
      clear hkc
      go_wp2_with fail
      go_ret
      rw [HE.out]
      obtain ⟨A', c', he, h1, h2, _⟩ := own_form HO.out
      injection he with e1 e2 e3
      subst e1
      subst e3
      exact ⟨A, k, c, rfl, Reads.of_own HO.out, h1, h2, HB.out⟩
theorem page_neq_no (a0 a1 a2 a3 a4 : Int) (a5 : ByteArray) (w : World) : (binOp .neq 26 (.agg #[.int .i64 a0, .int .i64 a1, .int .u32 a2, .int .u32 a3, .int .u64 a4, .string a5]) (.agg #[.int .i64 a0, .int .i64 a1, .int .u32 a2, .int .u32 a3, .int .u64 a4, .string a5])).run Try.prog w = .ok (.bool false) w := by
  simp [go_sem]
theorem page_neq_yes (a0 a1 a2 a3 a4 : Int) (a5 : ByteArray) (b0 b1 b2 b3 b4 : Int) (b5 : ByteArray) (w : World) (h : ¬ (a0 = b0 ∧ a1 = b1 ∧ a2 = b2 ∧ a3 = b3 ∧ a4 = b4 ∧ a5 = b5)) : (binOp .neq 26 (.agg #[.int .i64 a0, .int .i64 a1, .int .u32 a2, .int .u32 a3, .int .u64 a4, .string a5]) (.agg #[.int .i64 b0, .int .i64 b1, .int .u32 b2, .int .u32 b3, .int .u64 b4, .string b5])).run Try.prog w = .ok (.bool true) w := by
  have h1 := page_eql_no a0 a1 a2 a3 a4 a5 b0 b1 b2 b3 b4 b5 w h
  simp [go_sem] at h1 ⊢
  exact h1
set_option maxRecDepth 100000 in
set_option maxHeartbeats 12800000 in
theorem cof6_any (kd ct : Int) (pg lk ty : Nat) (bd : ByteArray) (w : World) (hbd : bd.size ≤ 100000) :
    Calls Try.prog 13 #[.agg #[.int .i64 kd, .int .i64 ct, .int .u32 pg, .int .u32 lk, .int .u64 ty, .string bd]] w (OfPost (readC kd ct pg lk ty bd) w) := by
  obtain ⟨w0, hw0⟩ : ∃ x, x = w.alloc (.cells #[.int .i64 kd, .int .i64 ct, .int .u32 pg, .int .u32 lk, .int .u64 ty, .string bd] 26) := ⟨_, rfl⟩
  have Pp := Lib.hid (show Blk w0 w.heap.size 26 #[.int .i64 kd, .int .i64 ct, .int .u32 pg, .int .u32 lk, .int .u64 ty, .string bd] by rw [hw0]; exact Blk.new _ _ _)
  have HB := Lib.hid (show Below w.heap.size w w0 by rw [hw0]; exact (Below.refl _ _).alloc (Nat.le_refl _) _)
  have hws : IntKind.i64.wrap ((bd.size : Int) + 24) = ((bd.size + 24 : Nat) : Int) := by rw [IntKind.wrap_i64]; omega
  have hws2 : ((bd.size : Int) + 24) = ((bd.size + 24 : Nat) : Int) := by omega
  have HRd := fun w => cread_any kd ct pg lk ty bd w hbd
  obtain ⟨z, hz⟩ : ∃ z : Nat, z = bd.size + 24 := ⟨_, rfl⟩
  have hwz : wrap64 (z : Int) = (z : Int) := wrap64_nat z (by omega)
  rw [← hz] at hws hws2
  rcases hg : goodSize z with _ | _
  · have HM := fun w => room_no z w hg
    have HE := Lib.hid (show readC kd ct pg lk ty bd = none by
      have h1 : ∀ l, mayL ((bd.size + 24 : Nat) : Int) l = false := fun l => by rw [← hz, mayL, hg]; simp
      unfold readC
      split
      · rfl
      · rename_i l r hp
        rw [h1 l]
        simp)
    clear hg HRd hbd hz
    go_enter Try.func13, Try.ntmps13
    go_upto_region 1 with fail
    rw [← hw0]
    clear hw0
    have p5 := Pp.out.cell 5
    simp at p5
    go_wp2_with (go_at_call 33; refine (HM _).mono ?_; rintro e w' ⟨rfl, rfl⟩)
    go_ret2
    rw [HE.out]
    exact ⟨rfl, HB.out⟩
  have HM := fun w => room_yes z w hg
  have hgp := good_pos hg
  have hr0 : (((z : Int) - 24) == 0) = false := by simp; omega
  have hn : ∀ n A' w', Reads w' w'.heap.size 3 A' n (bkc (readL ct bd)) → n ≤ 100000 := fun n A' w' h => by
    have h1 := bk_len h
    have h2 := nine_le (readL ct bd)
    have h3 : sizeB (readL ct bd) ≤ bd.size := by
      unfold readL
      split
      · simp [sizeB]
      · rename_i l r hp
        have := parseB_size hp
        rw [size_list] at this
        omega
    omega
  have HN := Lib.hid hn
  obtain ⟨hzp, hi⟩ := zero_of_info infoPg
  have HI := Lib.hid hi
  have HZ := Lib.hid hz
  clear hi hn hg hgp hbd hz
  go_enter Try.func13, Try.ntmps13
  go_upto_region 1 with fail
  rw [← hw0]
  clear hw0
  have p5 := Pp.out.cell 5
  simp at p5
  go_upto_region 4 with (go_at_call 33; refine (HM _).mono ?_; rintro e w' ⟨rfl, rfl⟩)
  clear p5 hws hws2 hr0 HM hwz
  have c0 := Pp.out.cell 0
  have c1 := Pp.out.cell 1
  have c2 := Pp.out.cell 2
  have c3 := Pp.out.cell 3
  have c4 := Pp.out.cell 4
  have c5 := Pp.out.cell 5
  simp at c0 c1 c2 c3 c4 c5
  go_wp2_with fail
  refine (HRd _).mono ?_
  rintro e w1 ⟨A', n', c', rfl, hr, hc, hm, hb⟩
  clear c0 c1 c2 c3 c4 c5 HRd
  replace Pp := Lib.hid (Pp.out.below hb Pp.out.lt)
  replace HB := Lib.hid (HB.out.trans (hb.mono HB.out.size))
  have HR := Lib.hid hr
  have hn := HN.out n' A' w1 hr
  have HL := Lib.hid (bk_len hr)
  have HC := Lib.hid hc
  have HMx := Lib.hid hm
  clear hb hr hc hm HN
  have c2 := Pp.out.cell 2
  have c4 := Pp.out.cell 4
  simp at c2 c4
  rcases hy : mayC z pg ty (readL ct bd) with _ | _
  · have HE := Lib.hid (show readC kd ct pg lk ty bd = none by
      have h1 := hy
      rw [HZ.out] at h1
      unfold mayC readL at h1
      unfold readC
      split
      · rfl
      · rename_i l r hp
        rw [hp] at h1
        simp only [h1]
        simp)
    have HP := cpage6_no z pg ty A' n' c' (readL ct bd) w1 HR.out (by omega) hy
    clear hy
    go_wp2_with fail
    refine HP.mono ?_
    rintro e w2 ⟨rfl, hb⟩
    replace HB := Lib.hid (HB.out.trans (hb.mono HB.out.size))
    clear hb HP
    go_wp2_with fail
    go_ret2
    rw [HE.out]
    exact ⟨rfl, HB.out.alloc HB.out.size _⟩
  · have HP := cpage6_yes z pg ty A' n' c' (readL ct bd) w1 HR.out (by omega) hy
    obtain ⟨B, hB⟩ : ∃ B, B = catBody z (readL ct bd) := ⟨_, rfl⟩
    rw [← hB] at HP
    have HBz := Lib.hid hB
    clear hB
    go_wp2_with fail
    refine HP.mono ?_
    rintro e w2 ⟨rfl, hb⟩
    replace Pp := Lib.hid (Pp.out.below hb Pp.out.lt)
    replace HB := Lib.hid (HB.out.trans (hb.mono HB.out.size))
    replace HR := Lib.hid ((HR.out.below hb).more hb.size)
    clear hb HP c2 c4
    obtain ⟨w3, hw3⟩ : ∃ x, x = w2.alloc (.cells #[.int .i64 2, .int .i64 n', .int .u32 pg, .int .u32 0, .int .u64 ty, .string B] 26) := ⟨_, rfl⟩
    have Q := Lib.hid (show Blk w3 w2.heap.size 26 #[.int .i64 2, .int .i64 n', .int .u32 pg, .int .u32 0, .int .u64 ty, .string B] by rw [hw3]; exact Blk.new _ _ _)
    replace Pp := Lib.hid (show Blk w3 w.heap.size 26 #[.int .i64 kd, .int .i64 ct, .int .u32 pg, .int .u32 lk, .int .u64 ty, .string bd] by rw [hw3]; exact Pp.out.alloc _)
    replace HB := Lib.hid (show Below w.heap.size w w3 by rw [hw3]; exact HB.out.alloc HB.out.size _)
    replace HR := Lib.hid (show Reads w3 w3.heap.size 3 A' n' (bkc (readL ct bd)) by rw [hw3]; exact (HR.out.alloc (Nat.le_refl _) _).more (by simp))
    go_upto_region 6 with fail
    rw [← hw3]
    clear hw3
    generalize w2.heap.size = gQ at *
    have c0 := Pp.out.cell 0
    have c1 := Pp.out.cell 1
    have c2 := Pp.out.cell 2
    have c3 := Pp.out.cell 3
    have c4 := Pp.out.cell 4
    have c5 := Pp.out.cell 5
    have q0 := Q.out.cell 0
    have q1 := Q.out.cell 1
    have q2 := Q.out.cell 2
    have q3 := Q.out.cell 3
    have q4 := Q.out.cell 4
    have q5 := Q.out.cell 5
    simp at c0 c1 c2 c3 c4 c5 q0 q1 q2 q3 q4 q5
    by_cases hd : (2 : Int) = kd ∧ (n' : Int) = ct ∧ (0 : Int) = lk ∧ B = bd
    · obtain ⟨rfl, rfl, hlk, rfl⟩ := hd
      have hlk0 : lk = 0 := by omega
      subst hlk0
      clear hlk
      simp at c3
      have HE := Lib.hid (show readC 2 n' pg 0 ty B = some (readL n' B) by
        have h1 := hy
        rw [HZ.out] at h1
        unfold mayC at h1
        have hl := HL.out
        have hBz : B = catBody (B.size + 24) (readL n' B) := by rw [← HZ.out]; exact HBz.out
        generalize hq : readL n' B = q at *
        unfold readL at hq
        unfold readC
        split at hq
        · rename_i hp
          subst hq
          simp at hl
          subst hl
          simp [parseB] at hp
        · rename_i l r hp
          subst hq
          simp only [hp]
          rw [if_pos (by rw [h1]; simp; exact ⟨by omega, hBz⟩)])
      have hpq := fun w => page_neq_no 2 n' pg 0 ty B w
      clear hy
      go_wp2_with fail
      go_ret2
      rw [HE.out]
      exact ⟨A', n', c', rfl, HR.out, HC.out, HMx.out, HB.out⟩
    · have HE := Lib.hid (show readC kd ct pg lk ty bd = none by
        have hl := HL.out
        unfold readC
        split
        · rfl
        · rename_i l r hp
          have hq : readL ct bd = l := by unfold readL; rw [hp]
          have hB := HBz.out
          rw [hq] at hl hB
          rw [← HZ.out] at *
          have hdq : (decide (kd = 2 ∧ ct = (l.length : Int) ∧ lk = 0 ∧ bd = catBody z l)) = false := decide_eq_false fun ⟨e1, e2, e3, e4⟩ => hd ⟨e1.symm, by omega, by omega, by rw [hB]; exact e4.symm⟩
          rw [hdq, Bool.and_false]
          rfl)
      have hpq := fun w => page_neq_yes 2 n' pg 0 ty B kd ct pg lk ty bd w (by intro ⟨e1, e2, _, e4, _, e6⟩; exact hd ⟨e1, e2, e4, e6⟩)
      clear hy hd
      go_wp2_with fail
      go_ret2
      rw [HE.out]
      exact ⟨rfl, HB.out⟩
end Go.Proofs.Ytgljmcameeeaiaa
