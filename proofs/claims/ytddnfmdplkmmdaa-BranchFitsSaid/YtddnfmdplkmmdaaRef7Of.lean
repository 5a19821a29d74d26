/-
  Contract of the reference's Of of layer 7: the forks of which a page is the page.
-/
import Derived.Test.YtddnfmdplkmmdaaRef7Page
import Derived.Test.YtddnfmdplkmmdaaRdTot
import Derived.Test.YtddnfmdplkmmdaaRef6Set
import Derived.Deep.CutRange
namespace Go.Proofs.Ytddnfmdplkmmdaa
open Go.RowKit
open Go.Lib hiding intOf
set_option linter.unusedVariables false
set_option linter.unusedSimpArgs false
attribute [local go_sem ↓] Go.wp_at_zero Go.wp_at_succ

theorem infoFk : (Try.prog.info? 35).map (fun i => (i.zero, i.size, i.bytes)) = some (some (.agg #[.string ByteArray.empty, .int .u32 0]), 2, 24) := by kernel_rfl
theorem fkc_one (l : List Fk) : ∀ u ∈ fkc l, u.oneCell' = true := by
  intro u hu
  obtain ⟨b, _, hb⟩ := List.mem_flatMap.1 hu
  simp only [Fk.cells, List.mem_cons, List.not_mem_nil, or_false] at hb
  rcases hb with rfl | rfl <;> rfl
theorem fk_one (b : Fk) : ∀ u ∈ b.cells, u.oneCell' = true := fun u hu => fkc_one [b] u (by simpa [fkc, rowsOf] using hu)
theorem page7_neq_no (a0 a1 a2 a3 a4 : Int) (a5 : ByteArray) (w : World) : (binOp .neq 26 (.agg #[.int .i64 a0, .int .i64 a1, .int .u32 a2, .int .u32 a3, .int .u64 a4, .string a5]) (.agg #[.int .i64 a0, .int .i64 a1, .int .u32 a2, .int .u32 a3, .int .u64 a4, .string a5])).run Try.prog w = .ok (.bool false) w := by
  simp [go_sem]
theorem page7_neq_yes (a0 a1 a2 a3 a4 : Int) (a5 : ByteArray) (b0 b1 b2 b3 b4 : Int) (b5 : ByteArray) (w : World) (h : ¬ (a0 = b0 ∧ a1 = b1 ∧ a2 = b2 ∧ a3 = b3 ∧ a4 = b4 ∧ a5 = b5)) : (binOp .neq 26 (.agg #[.int .i64 a0, .int .i64 a1, .int .u32 a2, .int .u32 a3, .int .u64 a4, .string a5]) (.agg #[.int .i64 b0, .int .i64 b1, .int .u32 b2, .int .u32 b3, .int .u64 b4, .string b5])).run Try.prog w = .ok (.bool true) w := by
  have h1 : (binOp .eql 26 (.agg #[.int .i64 a0, .int .i64 a1, .int .u32 a2, .int .u32 a3, .int .u64 a4, .string a5]) (.agg #[.int .i64 b0, .int .i64 b1, .int .u32 b2, .int .u32 b3, .int .u64 b4, .string b5])).run Try.prog w = .ok (.bool false) w := by
    simp [go_sem]
    intro h0 h1 h2 h3 h4 h5
    rw [ByteArray.toList_eq, ByteArray.toList_eq] at h5
    exact h ⟨h0, h1, h2, h3, h4, bytes_ext h5⟩
  simp [go_sem] at h1 ⊢
  exact h1
/-- What three readings make of the front: a fork, or an error. -/
theorem step7_is {s nm t1 t2 t3 : ByteArray} {v1 v3 : Nat} {x1 x2 x3 : Int} (h1 : tookN 1 s v1 x1 t1) (h2 : tookB v1 t1 nm x2 t2) (h3 : tookN 4 t2 v3 x3 t3) :
    match stepF s.data.toList with
    | none => (x1 ≠ 0 ∨ x2 ≠ 0 ∨ x3 ≠ 0)
    | some (b, r) => x1 = 0 ∧ x2 = 0 ∧ x3 = 0 ∧ b = ⟨nm, v3⟩ ∧ t3.data.toList = r := by
  rcases h1 with ⟨a1, rfl, e1, f1⟩ | ⟨a1, rfl, f1⟩
  rotate_left
  · have h0 : s.data.toList = [] := List.eq_nil_of_length_eq_zero (by rw [size_list]; omega)
    simp [h0, stepF]
  obtain ⟨n, r, hs⟩ := list_one (l := s.data.toList) (by rw [size_list]; exact a1)
  have hv : v1 = n.toNat := by rw [e1, hs]; exact leNat_one n
  have hr : t1.data.toList = r := by rw [f1, ext_drop, hs]; rfl
  have hl : t1.size = r.length := by rw [← hr, size_list]
  rcases h2 with ⟨a2, rfl, e2, f2⟩ | ⟨a2, rfl, f2⟩
  rotate_left
  · have hn : stepF s.data.toList = none := by rw [hs]; simp only [stepF]; rw [if_pos (by omega)]
    simp [hn]
  have hr2 : t2.data.toList = r.drop n.toNat := by rw [f2, ext_drop, hr, hv]
  have hl2 : t2.size = r.length - n.toNat := by rw [← size_list, hr2, List.length_drop]
  rcases h3 with ⟨a3, rfl, e3, f3⟩ | ⟨a3, rfl, f3⟩
  rotate_left
  · have hn : stepF s.data.toList = none := by rw [hs]; simp only [stepF]; rw [if_pos (by omega)]
    simp [hn]
  have hr3 : t3.data.toList = (r.drop n.toNat).drop 4 := by rw [f3, ext_drop, hr2]
  have hn : stepF s.data.toList = some (⟨nm, v3⟩, t3.data.toList) := by
    rw [hs]
    simp only [stepF]
    rw [if_neg (by omega), hr3, e3, hr2]
    have hnm : nm = ⟨(r.take n.toNat).toArray⟩ := by
      apply bytes_ext
      rw [e2, ext_take, hr, hv]
    rw [hnm]
  rw [hn]
  exact ⟨rfl, rfl, rfl, rfl, rfl⟩
def OfPost7 (o : Option (List Fk)) (w : World) (e : Ending) (w' : World) : Prop :=
  match o with
  | none => e = .returned (.tuple #[.slice none 0 0, .int .i64 4]) ∧ Below w.heap.size w w'
  | some l => ∃ A n c, e = .returned (.tuple #[.slice A n c, .int .i64 0]) ∧ Reads w' w'.heap.size 2 A n (fkc l) ∧ n ≤ c ∧ c ≤ maxLen ∧ Below w.heap.size w w'
set_option maxRecDepth 100000 in
set_option maxHeartbeats 12800000 in
theorem rof7_any (kd ct : Int) (pg lk ty : Nat) (bd : ByteArray) (w : World) (hbd : bd.size ≤ 100000) :
    Calls Try.prog 19 #[.agg #[.int .i64 kd, .int .i64 ct, .int .u32 pg, .int .u32 lk, .int .u64 ty, .string bd]] w (OfPost7 (readF kd ct pg lk ty bd) w) := by
  have Hbd := Lib.hid hbd
  obtain ⟨i0, hi0, hz0, hz1, hz2⟩ := info_parts infoFk
  obtain ⟨hzp, hi⟩ := zero_of_info infoPg
  have HI := Lib.hid hi
  clear hi
  obtain ⟨w0, hw0⟩ : ∃ x, x = w.alloc (.cells #[.int .i64 kd, .int .i64 ct, .int .u32 pg, .int .u32 lk, .int .u64 ty, .string bd] 26) := ⟨_, rfl⟩
  have Pp := Lib.hid (show Blk w0 w.heap.size 26 #[.int .i64 kd, .int .i64 ct, .int .u32 pg, .int .u32 lk, .int .u64 ty, .string bd] by rw [hw0]; exact Blk.new _ _ _)
  have HB := Lib.hid (show Below w.heap.size w w0 by rw [hw0]; exact (Below.refl _ _).alloc (Nat.le_refl _) _)
  go_enter Try.func19, Try.ntmps19
  go_upto_region 1 with fail
  rw [← hw0]
  clear hw0 hbd
  have p5 := Pp.out.cell 5
  simp at p5
  go_wp2_with fail
  refine (rnew_any' bd _).mono ?_
  rintro e w1 ⟨rfl, hrf, hb, hlt1⟩
  have hpg := Lib.hid Pp.out.lt
  replace Pp := Lib.hid (Pp.out.below hb Pp.out.lt)
  replace HB := Lib.hid (HB.out.trans (hb.mono HB.out.size))
  have HF := Lib.hid hrf
  clear hb hrf hlt1 p5
  generalize w0.heap.size = g at *
  go_wp2_with fail
  go_loopw [5, 6] (fun v i wr => ∃ (k : Nat) (A : Option Addr) (c : Nat) (l : List Fk) (r : List UInt8) (s : ByteArray), k ≤ ct.toNat ∧ i = .int .i64 k ∧ v = .slice A k c ∧ Hid (parseF k bd.data.toList = some (l, r)) ∧ Hid (s.data.toList = r) ∧ Hid (IsRf wr g s) ∧ Hid (wr.ownsRow (g + 1) 35 2 (.slice A k c) k (fkc l)) ∧ Hid (Blk wr w.heap.size 26 #[.int .i64 kd, .int .i64 ct, .int .u32 pg, .int .u32 lk, .int .u64 ty, .string bd]) ∧ Hid (Below w.heap.size w wr)) (fun _ i _ => ct.toNat - (intOf i).toNat)
  case atStart => exact ⟨0, none, 0, [], _, bd, Nat.zero_le _, rfl, rfl, Lib.hid rfl, Lib.hid rfl, HF, Lib.hid (World.ownsRow_nil _ _ _ _), Pp, HB⟩
  case round =>
    clear HF HB Pp
    obtain ⟨k, A, c, l, r, s, hk, rfl, rfl, HPr, HSr, HF, HO, Pp, HB⟩ := hrel
    have hk9 : k ≤ 100000 := by
      have h1 := parseF_size HPr.out
      have h2 := five_le l
      rw [parseF_len HPr.out] at h2
      rw [size_list] at h1
      have h3 := Hbd.out
      omega
    have p1 := Pp.out.cell 1
    simp at p1
    by_cases hlt : (k : Int) < ct
    · have hkc : k + 1 ≤ ct.toNat := by omega
      go_wp2_with fail
      refine (rnum_tot HF.out 1 (by decide) (by decide)).mono ?_
      rintro e w2 ⟨v1, x1, t1, rfl, hf, hg, hv1, hx1⟩
      have hbl := below_of_grown hg (Nat.le_of_lt hpg.out) HB.out.size
      replace HB := Lib.hid (HB.out.trans hbl)
      replace HO := Lib.hid (HO.out.kept hg (own_apart HO.out (Nat.lt_succ_self g)))
      replace Pp := Lib.hid (Blk.grown Pp.out hg (by intro h; injection h with h; have := hpg.out; omega))
      replace HF := Lib.hid hf
      have X1 := Lib.hid hx1
      clear hf hg hbl hx1 p1
      have hv1' : v1 < 256 := hv1
      clear hv1
      have hwv : IntKind.i64.wrap (v1 : Int) = (v1 : Int) := by rw [IntKind.wrap_i64]; omega
      go_wp2_with fail
      refine (rby_tot HF.out v1).mono ?_
      rintro e w3 ⟨nm, x2, t2, rfl, hf, hg, hx2⟩
      have hbl := below_of_grown hg (Nat.le_of_lt hpg.out) HB.out.size
      replace HB := Lib.hid (HB.out.trans hbl)
      replace HO := Lib.hid (HO.out.kept hg (own_apart HO.out (Nat.lt_succ_self g)))
      replace Pp := Lib.hid (Blk.grown Pp.out hg (by intro h; injection h with h; have := hpg.out; omega))
      replace HF := Lib.hid hf
      have X2 := Lib.hid hx2
      clear hf hg hbl hx2 hwv hv1'
      go_wp2_with fail
      refine (rnum_tot HF.out 4 (by decide) (by decide)).mono ?_
      rintro e w4 ⟨v3, x3, t3, rfl, hf, hg, hv3, hx3⟩
      have hbl := below_of_grown hg (Nat.le_of_lt hpg.out) HB.out.size
      replace HB := Lib.hid (HB.out.trans hbl)
      replace HO := Lib.hid (HO.out.kept hg (own_apart HO.out (Nat.lt_succ_self g)))
      replace Pp := Lib.hid (Blk.grown Pp.out hg (by intro h; injection h with h; have := hpg.out; omega))
      replace HF := Lib.hid hf
      have X3 := Lib.hid hx3
      clear hf hg hbl hx3
      have hv3' : v3 < 4294967296 := hv3
      clear hv3
      have hw3 : IntKind.u32.wrap (v3 : Int) = (v3 : Int) := by rw [IntKind.wrap_u32]; omega
      have hst := step7_is X1.out X2.out X3.out
      rw [HSr.out] at hst
      rcases hsf : stepF r with _ | ⟨b, r'⟩
      · rw [hsf] at hst
        have HE := Lib.hid (show readF kd ct pg lk ty bd = none by
          have h1 := parseF_none (parseF_stop HPr.out hsf) (ct.toNat - (k + 1))
          rw [show k + 1 + (ct.toNat - (k + 1)) = ct.toNat by omega] at h1
          rw [readF, h1])
        have h3 : x1 ≠ 0 ∨ (x1 = 0 ∧ x2 ≠ 0) ∨ (x1 = 0 ∧ x2 = 0 ∧ x3 ≠ 0) := by
          have h4 : x1 ≠ 0 ∨ x2 ≠ 0 ∨ x3 ≠ 0 := hst
          omega
        clear hst hsf X1 X2 X3
        rcases h3 with h1 | ⟨h1, h2⟩ | ⟨h1, h2, h3⟩
        · have q1 : (x1 != 0) = true := by simp [h1]
          have q2 : (x1 == 0) = false := by simp [h1]
          go_wp2_with fail
          go_ret2
          rw [HE.out]
          exact ⟨rfl, HB.out⟩
        · have q1 : (x1 != 0) = false := by simp [h1]
          have q2 : (x1 == 0) = true := by simp [h1]
          have q3 : (x2 != 0) = true := by simp [h2]
          have q4 : (x2 == 0) = false := by simp [h2]
          clear h1
          go_wp2_with fail
          go_ret2
          rw [HE.out]
          exact ⟨rfl, HB.out⟩
        · have q1 : (x1 != 0) = false := by simp [h1]
          have q2 : (x1 == 0) = true := by simp [h1]
          have q3 : (x2 != 0) = false := by simp [h2]
          have q4 : (x2 == 0) = true := by simp [h2]
          have q5 : (x3 != 0) = true := by simp [h3]
          have q6 : (x3 == 0) = false := by simp [h3]
          clear h1 h2
          go_wp2_with fail
          go_ret2
          rw [HE.out]
          exact ⟨rfl, HB.out⟩
      · rw [hsf] at hst
        obtain ⟨e1, e2, e3, hbk, hsr⟩ : x1 = 0 ∧ x2 = 0 ∧ x3 = 0 ∧ b = ⟨nm, v3⟩ ∧ t3.data.toList = r' := hst
        subst e1 e2 e3
        have HP4 := Lib.hid (show parseF (k + 1) bd.data.toList = some (l ++ [⟨nm, v3⟩], r') by rw [← hbk]; exact parseF_step HPr.out hsf)
        have HS4 := Lib.hid hsr
        clear hbk hsr hsf X1 X2 X3
        have HA := Lib.hid (HO.out.alloc (.cells #[.string nm, .int .u32 v3] 35))
        have hgl : g + 1 ≤ w4.heap.size := Blk.lt HF.out
        have HB3 := Lib.hid (HB.out.alloc HB.out.size (.cells #[.string nm, .int .u32 v3] 35))
        have HF3 := Lib.hid (show IsRf (w4.alloc (.cells #[.string nm, .int .u32 v3] 35)) g t3 from Blk.alloc HF.out _)
        have Pp3 := Lib.hid (Pp.out.alloc (.cells #[.string nm, .int .u32 v3] 35))
        go_upto_region 5 with (at_builtin; refine wpList_append_any _ rfl (.tmp 51) (.tmp 56) _ rfl (g + 1) 35 i0 _ 2 24 Try.underlying30 hi0 hz0 hz1 hz2 rfl (by omega) _ k _ rfl HA.out (w4.heap.size + 1) (some ⟨w4.heap.size, 0, none⟩) 1 1 (Fk.cells ⟨nm, v3⟩) rfl (reads_own (n := 1) (Blk.new _ _ _) rfl) (fk_one _) (by unfold maxLen; omega) (by omega) (by simp; omega) ?_; intro v5 w5 hown4 hg4 hat)
        clear hat
        rw [fkc_snoc] at hown4
        obtain ⟨A4, c4, rfl, _, _, _⟩ := own_form hown4
        have HO4 := Lib.hid hown4
        have HF4 := Lib.hid (show IsRf w5 g t3 from Blk.grown HF3.out hg4 (own_ne HA.out (Nat.lt_succ_self g)))
        have Pp4 := Lib.hid (Blk.grown Pp3.out hg4 (own_ne HA.out (Nat.lt_succ_of_lt hpg.out)))
        have HB4 := Lib.hid (HB3.out.grown hg4 HB3.out.size (fun j hj => by have h1 := (HA.out.lt j hj).1; have h2 := hpg.out; omega))
        clear hown4 hg4 HA HB3 HF3 Pp3 HO HF HB Pp
        go_wp2_with fail
        go_roundw
        case rel =>
          first
            | exact ⟨k + 1, A4, c4, _, r', t3, by omega, by go_num, rfl, HP4, HS4, HF4, HO4, Pp4, HB4⟩
            | ((repeat apply Exists.intro); exact ⟨⟨k + 1, A4, c4, _, r', t3, by omega, by go_num, rfl, HP4, HS4, HF4, HO4, Pp4, HB4⟩, rfl⟩)
        case measure => simp [intOf]; omega
    · have hkc : k = ct.toNat := by omega
      have hlen := parseF_len HPr.out
      have hsz : sizeF l ≤ 100000 := by
        have h1 := parseF_size HPr.out
        rw [size_list] at h1
        have h3 := Hbd.out
        omega
      obtain ⟨z, hzz⟩ : ∃ z, z = bd.size + 24 := ⟨_, rfl⟩
      have hwz : wrap64 (z : Int) = (z : Int) := wrap64_nat z (by have := Hbd.out; omega)
      have hws2 : ((bd.size : Int) + 24) = (z : Int) := by omega
      have HZ := Lib.hid hzz
      have HQ := Lib.hid (show readF kd ct pg lk ty bd = if mayP7 z pg ty l && decide (kd = 3 ∧ ct = l.length ∧ lk = 0 ∧ bd = forkBody z l) then some l else none by rw [readF, ← hkc, HPr.out, hzz])
      obtain ⟨A', c', he, h1, h2, _⟩ := own_form HO.out
      injection he with e1 e2 e3
      subst e1
      subst e3
      have HR := Lib.hid (Reads.of_own HO.out)
      have HC := Lib.hid h1
      have HMx := Lib.hid h2
      have HLn := Lib.hid hlen
      clear hzz hkc hlen h1 h2 HO HF p1
      have p1 := Pp.out.cell 1
      have p2 := Pp.out.cell 2
      have p4 := Pp.out.cell 4
      have p5 := Pp.out.cell 5
      simp at p1 p2 p4 p5
      rcases hy : mayP7 z pg ty l with _ | _
      · have HP := rpage7_no z pg ty A k c l wr HR.out (by omega) (by omega) hy
        rw [hy] at HQ
        clear hy
        go_wp2_with fail
        refine HP.mono ?_
        rintro e w2 ⟨rfl, hb⟩
        replace HB := Lib.hid (HB.out.trans (hb.mono HB.out.size))
        clear hb HP
        go_wp2_with fail
        go_ret2
        rw [HQ.out]
        exact ⟨rfl, HB.out.alloc HB.out.size _⟩
      · have HP := rpage7_yes z pg ty A k c l wr HR.out (by omega) hy
        obtain ⟨B, hB⟩ : ∃ B, B = forkBody z l := ⟨_, rfl⟩
        rw [← hB] at HP
        rw [hy, ← hB] at HQ
        clear hy hB
        go_wp2_with fail
        refine HP.mono ?_
        rintro e w2 ⟨rfl, hb⟩
        replace Pp := Lib.hid (Pp.out.below hb Pp.out.lt)
        replace HB := Lib.hid (HB.out.trans (hb.mono HB.out.size))
        replace HR := Lib.hid ((HR.out.below hb).more hb.size)
        clear hb HP p1 p2 p4 p5
        obtain ⟨w3, hw3⟩ : ∃ x, x = w2.alloc (.cells #[.int .i64 3, .int .i64 k, .int .u32 pg, .int .u32 0, .int .u64 ty, .string B] 26) := ⟨_, rfl⟩
        have Q := Lib.hid (show Blk w3 w2.heap.size 26 #[.int .i64 3, .int .i64 k, .int .u32 pg, .int .u32 0, .int .u64 ty, .string B] by rw [hw3]; exact Blk.new _ _ _)
        replace Pp := Lib.hid (show Blk w3 w.heap.size 26 #[.int .i64 kd, .int .i64 ct, .int .u32 pg, .int .u32 lk, .int .u64 ty, .string bd] by rw [hw3]; exact Pp.out.alloc _)
        replace HB := Lib.hid (show Below w.heap.size w w3 by rw [hw3]; exact HB.out.alloc HB.out.size _)
        replace HR := Lib.hid (show Reads w3 w3.heap.size 2 A k (fkc l) by rw [hw3]; exact (HR.out.alloc (Nat.le_refl _) _).more (by simp))
        go_upto_region 13 with fail
        rw [← hw3]
        clear hw3 hws2 hwz
        generalize w2.heap.size = gQ at *
        have c0 := Pp.out.cell 0
        have c1 := Pp.out.cell 1
        have c2 := Pp.out.cell 2
        have c3 := Pp.out.cell 3
        have c4 := Pp.out.cell 4
        have c5 := Pp.out.cell 5
        have q0 := Q.out.cell 0
        have q1 := Q.out.cell 1
        have q2 := Q.out.cell 2
        have q3 := Q.out.cell 3
        have q4 := Q.out.cell 4
        have q5 := Q.out.cell 5
        simp at c0 c1 c2 c3 c4 c5 q0 q1 q2 q3 q4 q5
        by_cases hd : (3 : Int) = kd ∧ (k : Int) = ct ∧ (0 : Int) = lk ∧ B = bd
        · obtain ⟨rfl, rfl, hlk, rfl⟩ := hd
          have hlk0 : lk = 0 := by omega
          subst hlk0
          clear hlk
          simp at c3
          have HE := Lib.hid (show readF 3 k pg 0 ty B = some l by
            rw [HQ.out, if_pos]
            have := HLn.out
            simp
            omega)
          have hpq := fun w => page7_neq_no 3 k pg 0 ty B w
          go_wp2_with fail
          go_ret2
          rw [HE.out]
          exact ⟨A, k, c, rfl, HR.out, HC.out, HMx.out, HB.out⟩
        · have HE := Lib.hid (show readF kd ct pg lk ty bd = none by
            rw [HQ.out, decide_eq_false (fun ⟨e1, e2, e3, e4⟩ => hd ⟨e1.symm, by have := HLn.out; omega, by omega, e4.symm⟩), Bool.and_false]
            rfl)
          have hpq := fun w => page7_neq_yes 3 k pg 0 ty B kd ct pg lk ty bd w (by intro ⟨e1, e2, _, e4, _, e6⟩; exact hd ⟨e1, e2, e4, e6⟩)
          clear hd
          go_wp2_with fail
          go_ret2
          rw [HE.out]
          exact ⟨rfl, HB.out⟩
end Go.Proofs.Ytddnfmdplkmmdaa
