/-
  Contracts of free.read and free.Of: the numbers of a page.
-/
import Derived.Test.YtabhhccdbfjigaaJ37
import Derived.Test.YtabhhccdbfjigaaJ21
import Derived.Deep.CutRange
import Derived.BigQuiet
namespace Go.Proofs.Ytabhhccdbfjigaa
open Go.RowKit
open Go.Lib hiding intOf
set_option linter.unusedVariables false
set_option linter.unusedSimpArgs false
attribute [local go_sem ↓] Go.wp_at_zero Go.wp_at_succ

theorem parseU_fits : ∀ (k : Nat) (bs : List UInt8), 4 * k ≤ bs.length → ∃ l r, parseU k bs = some (l, r)
  | 0, bs, _ => ⟨[], bs, rfl⟩
  | k + 1, bs, h => by
    obtain ⟨l, r, e⟩ := parseU_fits k bs (by omega)
    have h2 := parseU_size e
    have hs : stepU r = some (leNat (r.take 4), r.drop 4) := by unfold stepU; rw [if_neg (by omega)]
    exact ⟨_, _, parseU_step e hs⟩
/-- What was read: so many numbers, a row of the call's own. -/
def GotU (k : Nat) (bs : List UInt8) (B : Nat) (A : Option Addr) (c : Nat) (w : World) : Prop := ∃ l r, parseU k bs = some (l, r) ∧ w.ownsRow B 29 1 (.slice A k c) k (ucells l)
set_option maxRecDepth 100000 in
set_option maxHeartbeats 12800000 in
theorem fread10_any (kd ct : Int) (pg lk ty : Nat) (bd : ByteArray) (w : World) (hbd : bd.size ≤ 100000) (hfit : 4 * ct.toNat ≤ bd.size) :
    Calls Try.prog 78 #[.agg #[.int .i64 kd, .int .i64 ct, .int .u32 pg, .int .u32 lk, .int .u64 ty, .string bd]] w fun e w' => ∃ A c, e = .returned (.slice A ct.toNat c) ∧ GotU ct.toNat bd.data.toList w.heap.size A c w' ∧ Below w.heap.size w w' := by
  have Hbd := Lib.hid hbd
  have Hfit := Lib.hid hfit
  obtain ⟨i0, hi0, hz0, hz1, hz2⟩ := info_parts infoU32
  obtain ⟨w0, hw0⟩ : ∃ x, x = w.alloc (.cells #[.int .i64 kd, .int .i64 ct, .int .u32 pg, .int .u32 lk, .int .u64 ty, .string bd] 40) := ⟨_, rfl⟩
  have Pp := Lib.hid (show Blk w0 w.heap.size 40 #[.int .i64 kd, .int .i64 ct, .int .u32 pg, .int .u32 lk, .int .u64 ty, .string bd] by rw [hw0]; exact Blk.new _ _ _)
  have HB := Lib.hid (show Below w.heap.size w w0 by rw [hw0]; exact (Below.refl _ _).alloc (Nat.le_refl _) _)
  go_enter Try.func78, Try.ntmps78
  go_upto_region 1 with fail
  rw [← hw0]
  clear hw0 hbd hfit
  have p1 := Pp.out.cell 1
  have p5 := Pp.out.cell 5
  simp at p1 p5
  go_wp2_with fail
  refine (new_any' bd _).mono ?_
  rintro e w1 ⟨rfl, hrf, hb, hlt1⟩
  have hpg := Lib.hid Pp.out.lt
  replace Pp := Lib.hid (Pp.out.below hb Pp.out.lt)
  replace HB := Lib.hid (HB.out.trans (hb.mono HB.out.size))
  have HF := Lib.hid hrf
  clear hb hrf hlt1 p5 p1
  generalize w0.heap.size = g at *
  have p1 := Pp.out.cell 1
  simp at p1
  go_wp2_with fail
  clear p1
  go_loopw [3, 5, 6, 12] (fun v _ _ i wr => ∃ (k : Nat) (A : Option Addr) (c : Nat) (l : List Nat) (r : List UInt8) (s : ByteArray), k ≤ ct.toNat ∧ i = .int .i64 k ∧ v = .slice A k c ∧ Hid (parseU k bd.data.toList = some (l, r)) ∧ Hid (s.data.toList = r) ∧ Hid (IsRd wr g s) ∧ Hid (wr.ownsRow (g + 1) 29 1 (.slice A k c) k (ucells l)) ∧ Hid (Blk wr w.heap.size 40 #[.int .i64 kd, .int .i64 ct, .int .u32 pg, .int .u32 lk, .int .u64 ty, .string bd]) ∧ Hid (Below w.heap.size w wr)) (fun _ _ _ i _ => ct.toNat - (intOf i).toNat)
  case atStart => exact ⟨0, none, 0, [], _, bd, Nat.zero_le _, rfl, rfl, Lib.hid rfl, Lib.hid rfl, HF, Lib.hid (World.ownsRow_nil _ _ _ _), Pp, HB⟩
  case round =>
    clear HF HB Pp
    obtain ⟨k, A, c, l, r, s, hk, rfl, rfl, HPr, HSr, HF, HO, Pp, HB⟩ := hrel
    have hk9 : k ≤ 100000 := by
      have h1 := parseU_size HPr.out
      rw [size_list] at h1
      have h3 := Hbd.out
      omega
    by_cases hlt : (k : Int) < ct
    · have hkc : k + 1 ≤ ct.toNat := by omega
      go_wp2_with fail
      refine (cnum_tot HF.out 4 (by decide) (by decide)).mono ?_
      rintro e w4 ⟨v3, x3, t3, rfl, hf, hg, hv3, hx3⟩
      have hbl := below_of_grown hg (Nat.le_of_lt hpg.out) HB.out.size
      replace HB := Lib.hid (HB.out.trans hbl)
      replace HO := Lib.hid (HO.out.kept hg (own_apart HO.out (Nat.lt_succ_self g)))
      replace Pp := Lib.hid (Blk.grown Pp.out hg (by intro h; injection h with h; have := hpg.out; omega))
      replace HF := Lib.hid hf
      have X3 := Lib.hid hx3
      clear hf hg hbl hx3
      have hv3' : v3 < 4294967296 := hv3
      clear hv3
      have hw3 : IntKind.u32.wrap (v3 : Int) = (v3 : Int) := by rw [IntKind.wrap_u32]; omega
      have hst := step10_is X3.out
      rw [HSr.out] at hst
      obtain ⟨b, r', hsf⟩ : ∃ b r', stepU r = some (b, r') := by
        have h1 := parseU_size HPr.out
        rw [size_list] at h1
        have h3 := Hfit.out
        unfold stepU
        rw [if_neg (by omega)]
        exact ⟨_, _, rfl⟩
      rw [hsf] at hst
      obtain ⟨e3, hbk, hsr⟩ : x3 = 0 ∧ b = v3 ∧ t3.data.toList = r' := hst
      subst e3
      have HP4 := Lib.hid (show parseU (k + 1) bd.data.toList = some (l ++ [v3], r') by rw [← hbk]; exact parseU_step HPr.out hsf)
      have HS4 := Lib.hid hsr
      clear hbk hsr hsf X3
      have HA := Lib.hid (HO.out.alloc (.cells #[.int .u32 v3] 29))
      have hgl : g + 1 ≤ w4.heap.size := Blk.lt HF.out
      have HB3 := Lib.hid (HB.out.alloc HB.out.size (.cells #[.int .u32 v3] 29))
      have HF3 := Lib.hid (show IsRd (w4.alloc (.cells #[.int .u32 v3] 29)) g t3 from Blk.alloc HF.out _)
      have Pp3 := Lib.hid (Pp.out.alloc (.cells #[.int .u32 v3] 29))
      go_upto_region 7 with (at_builtin; refine wpList_append_any _ rfl (.tmp 19) (.tmp 22) _ rfl (g + 1) 29 i0 _ 1 4 Try.underlying32 hi0 hz0 hz1 hz2 rfl (by omega) _ k _ rfl HA.out (w4.heap.size + 1) (some ⟨w4.heap.size, 0, none⟩) 1 1 (ucells [v3]) rfl (reads_own (n := 1) (Blk.new _ _ _) rfl) (ucells_one _) (by unfold maxLen; omega) (by omega) (by simp; omega) ?_; intro v5 w5 hown4 hg4 hat)
      clear hat
      rw [← ucells_append] at hown4
      obtain ⟨A4, c4, rfl, _, _, _⟩ := own_form hown4
      have HO4 := Lib.hid hown4
      have HF4 := Lib.hid (show IsRd w5 g t3 from Blk.grown HF3.out hg4 (own_ne HA.out (Nat.lt_succ_self g)))
      have Pp4 := Lib.hid (Blk.grown Pp3.out hg4 (own_ne HA.out (Nat.lt_succ_of_lt hpg.out)))
      have HB4 := Lib.hid (HB3.out.grown hg4 HB3.out.size (fun j hj => by have h1 := (HA.out.lt j hj).1; have h2 := hpg.out; omega))
      clear hown4 hg4 HA HB3 HF3 Pp3 HO HF HB Pp
      go_wp2_with fail
      go_roundw
      case rel =>
        first
          | exact ⟨k + 1, A4, c4, _, r', t3, by omega, by go_num, rfl, HP4, HS4, HF4, HO4, Pp4, HB4⟩
          | ((repeat apply Exists.intro); exact ⟨⟨k + 1, A4, c4, _, r', t3, by omega, by go_num, rfl, HP4, HS4, HF4, HO4, Pp4, HB4⟩, rfl⟩)
      case measure => simp [intOf]; omega
    · have hkc : k = ct.toNat := by omega
      subst hkc
      have HOl := Lib.hid (own_low HO.out (Nat.le_succ_of_le (Nat.le_of_lt hpg.out)))
      have HG := Lib.hid (show GotU ct.toNat bd.data.toList w.heap.size A c wr from ⟨l, r, HPr.out, HOl.out⟩)
      go_wp2_with fail
      go_ret
      exact ⟨A, c, rfl, HG.out, HB.out⟩
set_option maxRecDepth 100000 in
set_option maxHeartbeats 12800000 in
theorem fof10_own (kd ct : Int) (pg lk ty : Nat) (bd : ByteArray) (w : World) (hbd : bd.size ≤ 100000) :
    Calls Try.prog 42 #[.agg #[.int .i64 kd, .int .i64 ct, .int .u32 pg, .int .u32 lk, .int .u64 ty, .string bd]] w (OwnPost10 (readU kd ct pg lk ty bd) lk w) := by
  obtain ⟨hzp, hi⟩ := zero_of_info infoPg
  have HI := Lib.hid hi
  clear hi
  obtain ⟨w0, hw0⟩ : ∃ x, x = w.alloc (.cells #[.int .i64 kd, .int .i64 ct, .int .u32 pg, .int .u32 lk, .int .u64 ty, .string bd] 40) := ⟨_, rfl⟩
  have Pp := Lib.hid (show Blk w0 w.heap.size 40 #[.int .i64 kd, .int .i64 ct, .int .u32 pg, .int .u32 lk, .int .u64 ty, .string bd] by rw [hw0]; exact Blk.new _ _ _)
  have HB := Lib.hid (show Below w.heap.size w w0 by rw [hw0]; exact (Below.refl _ _).alloc (Nat.le_refl _) _)
  obtain ⟨z, hz⟩ : ∃ z : Nat, z = bd.size + 24 := ⟨_, rfl⟩
  have hwz : wrap64 (z : Int) = (z : Int) := wrap64_nat z (by omega)
  have hws2 : ((bd.size : Int) + 24) = (z : Int) := by omega
  have HZ := Lib.hid hz
  have HM := fun w => fmost_same z w
  obtain ⟨mo, hmo⟩ : ∃ mo, mo = mostN z := ⟨_, rfl⟩
  rw [← hmo] at HM
  obtain ⟨o, ho⟩ : ∃ o, o = readU kd ct pg lk ty bd := ⟨_, rfl⟩
  rw [← ho]
  have Hbd := Lib.hid hbd
  by_cases h1 : (mo : Int) < ct
  · have q1 : decide ((mo : Int) < ct) = true := decide_eq_true h1
    obtain rfl : o = none := by
      rw [ho]
      rcases hrd : readU kd ct pg lk ty bd with _ | l
      · rfl
      · obtain ⟨ha, _, hb, _⟩ := readU_some hrd
        rw [← hz] at ha
        simp only [mayP10, Bool.and_eq_true, decide_eq_true_eq, ← hmo] at ha
        omega
    clear h1 hz hmo ho hbd
    go_enter Try.func42, Try.ntmps42
    go_upto_region 1 with fail
    rw [← hw0]
    clear hw0
    have p1 := Pp.out.cell 1
    have p5 := Pp.out.cell 5
    simp at p1 p5
    go_wp2_with fail
    go_quiet ((go_at_call 40; exact Calls.quiet_of_same (HM _)))
    go_wp2_with fail
    go_ret3
    exact ⟨rfl, below_drewN HB.out _⟩
  have q1 : decide ((mo : Int) < ct) = false := decide_eq_false h1
  have hfit : 4 * ct.toNat ≤ bd.size := by
    rcases hg : goodSize z with _ | _
    · have : mo = 0 := by rw [hmo, mostN, hg]; rfl
      omega
    · have := mostN_good hg
      omega
  have HRd := fun w => fread10_any kd ct pg lk ty bd w hbd hfit
  have HQ := Lib.hid (show ∀ l r, parseU ct.toNat bd.data.toList = some (l, r) → o = if mayP10 z pg lk ty l && decide (kd = 6 ∧ ct = l.length ∧ bd = freeBody z l) then some l else none by intro l r h; rw [ho, readU, h, hz])
  have hct9 : ct.toNat ≤ 100000 := by omega
  clear h1 hz hmo ho hbd
  go_enter Try.func42, Try.ntmps42
  go_upto_region 1 with fail
  rw [← hw0]
  clear hw0
  have p1 := Pp.out.cell 1
  have p5 := Pp.out.cell 5
  simp at p1 p5
  go_wp2_with fail
  clear p5
  go_quiet ((go_at_call 40; exact Calls.quiet_of_same (HM _)))
  clear p1 HM q1
  replace Pp := Lib.hid (Pp.out.drewN nq)
  replace HB := Lib.hid (below_drewN HB.out nq)
  rw [hwz]
  generalize w0.drewN nq = w1 at *
  have p0 := Pp.out.cell 0
  have p1 := Pp.out.cell 1
  have p2 := Pp.out.cell 2
  have p3 := Pp.out.cell 3
  have p4 := Pp.out.cell 4
  have p5 := Pp.out.cell 5
  simp at p0 p1 p2 p3 p4 p5
  go_wp2_with fail
  refine (HRd _).mono ?_
  rintro e w2 ⟨A, c, rfl, ⟨l, r, hpr, hown⟩, hb⟩
  have hlen := parseU_len hpr
  have HO := Lib.hid (HQ.out l r hpr)
  have HRd2 := Lib.hid (Reads.of_own hown)
  have HOw := Lib.hid (own_low hown HB.out.size)
  have hpg := Lib.hid Pp.out.lt
  replace Pp := Lib.hid (Pp.out.below hb Pp.out.lt)
  replace HB := Lib.hid (HB.out.trans (hb.mono HB.out.size))
  clear hb hown hpr HQ HRd p0 p1 p2 p3 p4 p5 hws2 hwz
  have HLn := Lib.hid hlen
  obtain ⟨k, hk⟩ : ∃ k, k = ct.toNat := ⟨_, rfl⟩
  rw [← hk] at HRd2 HOw hct9 hlen HLn ⊢
  have HK := Lib.hid hk
  clear hlen hk hfit
  have p0 := Pp.out.cell 0
  have p1 := Pp.out.cell 1
  have p2 := Pp.out.cell 2
  have p3 := Pp.out.cell 3
  have p4 := Pp.out.cell 4
  have p5 := Pp.out.cell 5
  simp at p0 p1 p2 p3 p4 p5
  rcases hy : mayP10 z pg lk ty l with _ | _
  · have HP := fpage10_no z pg lk ty A k c l w2 HRd2.out (by omega) hy
    obtain rfl : o = none := by rw [HO.out, hy]; rfl
    clear hy hct9
    go_wp2_with fail
    refine HP.mono ?_
    rintro e w3 ⟨rfl, hb⟩
    replace HB := Lib.hid (HB.out.trans (hb.mono HB.out.size))
    clear hb HP
    go_wp2_with fail
    go_ret3
    exact ⟨rfl, HB.out.alloc HB.out.size _⟩
  · have HP := fpage10_yes z pg lk ty A k c l w2 HRd2.out hy
    obtain ⟨B, hB⟩ : ∃ B, B = freeBody z l := ⟨_, rfl⟩
    rw [← hB] at HP
    have HQ := Lib.hid (show o = if decide (kd = 6 ∧ ct = l.length ∧ bd = B) then some l else none by rw [HO.out, hy, Bool.true_and, hB])
    clear hy hB HO
    go_wp2_with fail
    refine HP.mono ?_
    rintro e w3 ⟨rfl, hb⟩
    replace Pp := Lib.hid (Pp.out.below hb Pp.out.lt)
    replace HOw := Lib.hid (own_below HOw.out hb)
    replace HB := Lib.hid (HB.out.trans (hb.mono HB.out.size))
    clear hb HP p0 p1 p2 p3 p4 p5 HRd2
    obtain ⟨w4, hw4⟩ : ∃ x, x = w3.alloc (.cells #[.int .i64 6, .int .i64 k, .int .u32 pg, .int .u32 lk, .int .u64 ty, .string B] 40) := ⟨_, rfl⟩
    have Q := Lib.hid (show Blk w4 w3.heap.size 40 #[.int .i64 6, .int .i64 k, .int .u32 pg, .int .u32 lk, .int .u64 ty, .string B] by rw [hw4]; exact Blk.new _ _ _)
    replace Pp := Lib.hid (show Blk w4 w.heap.size 40 #[.int .i64 kd, .int .i64 ct, .int .u32 pg, .int .u32 lk, .int .u64 ty, .string bd] by rw [hw4]; exact Pp.out.alloc _)
    replace HB := Lib.hid (show Below w.heap.size w w4 by rw [hw4]; exact HB.out.alloc HB.out.size _)
    replace HOw := Lib.hid (show w4.ownsRow w.heap.size 29 1 (.slice A k c) k (ucells l) by rw [hw4]; exact HOw.out.alloc _)
    go_upto_region 6 with fail
    rw [← hw4]
    clear hw4
    generalize w3.heap.size = gQ at *
    have c0 := Pp.out.cell 0
    have c1 := Pp.out.cell 1
    have c2 := Pp.out.cell 2
    have c3 := Pp.out.cell 3
    have c4 := Pp.out.cell 4
    have c5 := Pp.out.cell 5
    have q0 := Q.out.cell 0
    have q1 := Q.out.cell 1
    have q2 := Q.out.cell 2
    have q3 := Q.out.cell 3
    have q4 := Q.out.cell 4
    have q5 := Q.out.cell 5
    simp at c0 c1 c2 c3 c4 c5 q0 q1 q2 q3 q4 q5
    by_cases hd : (6 : Int) = kd ∧ (k : Int) = ct ∧ B = bd
    · obtain ⟨rfl, rfl, rfl⟩ := hd
      obtain rfl : o = some l := by
        rw [HQ.out, if_pos]
        have := HLn.out
        simp
        omega
      have hpq := fun w => page10_neq_no 6 k pg lk ty B w
      go_wp2_with fail
      go_quiet (fail)
      go_wp2_with fail
      go_ret3
      exact ⟨A, k, c, rfl, own_below HOw.out (below_drewN (Below.refl _ _) _), below_drewN HB.out _⟩
    · obtain rfl : o = none := by
        rw [HQ.out, decide_eq_false (fun ⟨e1, e2, e3⟩ => hd ⟨e1.symm, by have := HLn.out; omega, e3.symm⟩)]
        rfl
      have hpq := fun w => page10_neq_yes 6 k pg lk ty B kd ct pg lk ty bd w (by intro ⟨e1, e2, _, _, _, e6⟩; exact hd ⟨e1, e2, e6⟩)
      clear hd
      go_wp2_with fail
      go_ret3
      exact ⟨rfl, HB.out⟩
theorem fof10_any (kd ct : Int) (pg lk ty : Nat) (bd : ByteArray) (w : World) (hbd : bd.size ≤ 100000) :
    Calls Try.prog 42 #[.agg #[.int .i64 kd, .int .i64 ct, .int .u32 pg, .int .u32 lk, .int .u64 ty, .string bd]] w (OfPost10 (readU kd ct pg lk ty bd) lk w) :=
  (fof10_own kd ct pg lk ty bd w hbd).mono fun _ _ h => h.any
end Go.Proofs.Ytabhhccdbfjigaa
