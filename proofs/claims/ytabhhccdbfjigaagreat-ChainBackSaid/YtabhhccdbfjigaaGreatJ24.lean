/-
  Texts that the main proof rests on, put together: RdTot, Ref10Of. No statement is proved here.
-/
import Derived.Test.YtabhhccdbfjigaaGreatJ18
import Derived.Test.YtabhhccdbfjigaaGreatJ2
import Derived.Test.YtabhhccdbfjigaaGreatJ15
import Derived.Test.YtabhhccdbfjigaaGreatJ23
import Derived.Test.YtabhhccdbfjigaaGreatJ7
import Derived.Deep.CutRange
namespace Go.Proofs.YtabhhccdbfjigaaGreat
open Go.RowKit
open Go.Lib
set_option linter.unusedVariables false
set_option linter.unusedSimpArgs false

/-- A number is taken off a reader, or it is too short, and nothing is. -/
def tookN (k : Nat) (t : ByteArray) (v : Nat) (x : Int) (t' : ByteArray) : Prop := (k ≤ t.size ∧ x = 0 ∧ v = leNat (t.data.toList.take k) ∧ t' = t.extract k t.size) ∨ (t.size < k ∧ x = 7 ∧ t' = t)
theorem cnum_tot {w : World} {g : Nat} {t : ByteArray} (h : IsRd w g t) (k : Nat) (h1 : 1 ≤ k) (h2 : k ≤ 8) :
    Calls Tryz.prog 88 #[.pointer (some ⟨g, 0, none⟩), .int .i64 k] w fun e w' => ∃ (v : Nat) (x : Int) (t' : ByteArray), e = .returned (.tuple #[.int .u64 v, .int .i64 x]) ∧ IsRd w' g t' ∧ w.grownBy w' (some g) ∧ v < 2 ^ (8 * k) ∧ tookN k t v x t' := by
  by_cases hk : k ≤ t.size
  · refine (number_ok' h k h1 h2 hk).mono ?_
    rintro e w' ⟨rfl, hr, hg⟩
    refine ⟨_, _, _, rfl, hr, hg, ?_, .inl ⟨hk, rfl, rfl, rfl⟩⟩
    have h3 := leNat_lt (t.data.toList.take k)
    have h4 : (t.data.toList.take k).length ≤ k := by rw [List.length_take]; omega
    exact Nat.lt_of_lt_of_le h3 (Nat.pow_le_pow_right (by omega) (by omega))
  · refine (number_more h k (by omega) (by omega) (by omega)).mono ?_
    rintro e w' ⟨rfl, rfl⟩
    exact ⟨0, 7, t, rfl, h, World.grownBy.refl _ _, Nat.two_pow_pos _, .inr ⟨by omega, rfl, rfl⟩⟩
def tookB (k : Nat) (t v : ByteArray) (x : Int) (t' : ByteArray) : Prop := (k ≤ t.size ∧ x = 0 ∧ v = t.extract 0 k ∧ t' = t.extract k t.size) ∨ (t.size < k ∧ x = 7 ∧ t' = t)
theorem cbytes_tot {w : World} {g : Nat} {t : ByteArray} (h : IsRd w g t) (k : Nat) :
    Calls Tryz.prog 102 #[.pointer (some ⟨g, 0, none⟩), .int .i64 k] w fun e w' => ∃ (v : ByteArray) (x : Int) (t' : ByteArray), e = .returned (.tuple #[.string v, .int .i64 x]) ∧ IsRd w' g t' ∧ w.grownBy w' (some g) ∧ tookB k t v x t' := by
  by_cases hk : k ≤ t.size
  · refine (bytes_ok' h k hk).mono ?_
    rintro e w' ⟨rfl, hr, hg⟩
    exact ⟨_, _, _, rfl, hr, hg, .inl ⟨hk, rfl, rfl, rfl⟩⟩
  · refine (bytes_more h k (by omega)).mono ?_
    rintro e w' ⟨rfl, rfl⟩
    exact ⟨_, _, t, rfl, h, World.grownBy.refl _ _, .inr ⟨by omega, rfl, rfl⟩⟩
theorem ext_take (t : ByteArray) (k : Nat) : (t.extract 0 k).data.toList = t.data.toList.take k := by simp
theorem ext_drop (t : ByteArray) (k : Nat) : (t.extract k t.size).data.toList = t.data.toList.drop k := by
  have h : t.data.size = t.data.toList.length := by simp
  rw [ByteArray.data_extract, Array.toList_extract, List.extract_eq_take_drop, List.take_of_length_le]
  rw [List.length_drop]
  show _ ≤ t.data.size - k
  omega
theorem leNat_one (n : UInt8) : leNat [n] = n.toNat := by simp [leNat]
theorem rnum_tot {w : World} {g : Nat} {t : ByteArray} (h : IsRf w g t) (k : Nat) (h1 : 1 ≤ k) (h2 : k ≤ 8) :
    Calls Tryz.prog 64 #[.pointer (some ⟨g, 0, none⟩), .int .i64 k] w fun e w' => ∃ (v : Nat) (x : Int) (t' : ByteArray), e = .returned (.tuple #[.int .u64 v, .int .i64 x]) ∧ IsRf w' g t' ∧ w.grownBy w' (some g) ∧ v < 2 ^ (8 * k) ∧ tookN k t v x t' := by
  by_cases hk : k ≤ t.size
  · refine (rnumber_ok' h k h1 h2 hk).mono ?_
    rintro e w' ⟨rfl, hr, hg⟩
    refine ⟨_, _, _, rfl, hr, hg, ?_, .inl ⟨hk, rfl, rfl, rfl⟩⟩
    have h3 := leNat_lt (t.data.toList.take k)
    have h4 : (t.data.toList.take k).length ≤ k := by rw [List.length_take]; omega
    exact Nat.lt_of_lt_of_le h3 (Nat.pow_le_pow_right (by omega) (by omega))
  · refine (rnumber_more h k (by omega) (by omega) (by omega)).mono ?_
    rintro e w' ⟨rfl, rfl⟩
    exact ⟨0, 7, t, rfl, h, World.grownBy.refl _ _, Nat.two_pow_pos _, .inr ⟨by omega, rfl, rfl⟩⟩
end Go.Proofs.YtabhhccdbfjigaaGreat
namespace Go.Proofs.YtabhhccdbfjigaaGreat
open Go.RowKit
open Go.Lib hiding intOf
set_option linter.unusedVariables false
set_option linter.unusedSimpArgs false
attribute [local go_sem ↓] Go.wp_at_zero Go.wp_at_succ

theorem infoU32 : (Tryz.prog.info? 22).map (fun i => (i.zero, i.size, i.bytes)) = some (some (.int .u32 0), 1, 4) := by kernel_rfl
theorem page10_neq_no (a0 a1 a2 a3 a4 : Int) (a5 : ByteArray) (w : World) : (binOp .neq 37 (.agg #[.int .i64 a0, .int .i64 a1, .int .u32 a2, .int .u32 a3, .int .u64 a4, .string a5]) (.agg #[.int .i64 a0, .int .i64 a1, .int .u32 a2, .int .u32 a3, .int .u64 a4, .string a5])).run Tryz.prog w = .ok (.bool false) w := by
  simp [go_sem]
theorem page10_neq_yes (a0 a1 a2 a3 a4 : Int) (a5 : ByteArray) (b0 b1 b2 b3 b4 : Int) (b5 : ByteArray) (w : World) (h : ¬ (a0 = b0 ∧ a1 = b1 ∧ a2 = b2 ∧ a3 = b3 ∧ a4 = b4 ∧ a5 = b5)) : (binOp .neq 37 (.agg #[.int .i64 a0, .int .i64 a1, .int .u32 a2, .int .u32 a3, .int .u64 a4, .string a5]) (.agg #[.int .i64 b0, .int .i64 b1, .int .u32 b2, .int .u32 b3, .int .u64 b4, .string b5])).run Tryz.prog w = .ok (.bool true) w := by
  have h1 : (((((a0 == b0 && a1 == b1) && a2 == b2) && a3 == b3) && a4 == b4) && a5.toList == b5.toList) = false := by
    rw [Bool.eq_false_iff]
    intro ht
    simp only [Bool.and_eq_true, beq_iff_eq] at ht
    obtain ⟨⟨⟨⟨⟨h0, h1⟩, h2⟩, h3⟩, h4⟩, h5⟩ := ht
    rw [ByteArray.toList_eq, ByteArray.toList_eq] at h5
    exact h ⟨h0, h1, h2, h3, h4, bytes_ext h5⟩
  simp [go_sem] at h1 ⊢
  exact h1
/-- One number read, told by plain data. -/
theorem step10_is {s t : ByteArray} {v : Nat} {x : Int} (h : tookN 4 s v x t) :
    match stepU s.data.toList with
    | none => x ≠ 0
    | some (b, r') => x = 0 ∧ b = v ∧ t.data.toList = r' := by
  have hl : s.data.toList.length = s.size := size_list s
  unfold stepU
  rcases h with ⟨h1, rfl, rfl, rfl⟩ | ⟨h1, rfl, rfl⟩
  · rw [if_neg (by omega)]
    exact ⟨rfl, rfl, ext_drop s 4⟩
  · rw [if_pos (by omega)]
    simp
/-- What Of returns of what a page reads as. -/
def OfPost10 (o : Option (List Nat)) (lk : Nat) (w : World) (e : Ending) (w' : World) : Prop :=
  match o with
  | none => e = .returned (.tuple #[.slice none 0 0, .int .u32 0, .int .i64 4]) ∧ Below w.heap.size w w'
  | some l => ∃ A n c, e = .returned (.tuple #[.slice A n c, .int .u32 lk, .int .i64 0]) ∧ Reads w' w'.heap.size 1 A n (ucells l) ∧ n ≤ c ∧ c ≤ maxLen ∧ Below w.heap.size w w'
/-- What Of returns of what a page reads as: a slice of the call's own. -/
def OwnPost10 (o : Option (List Nat)) (lk : Nat) (w : World) (e : Ending) (w' : World) : Prop :=
  match o with
  | none => e = .returned (.tuple #[.slice none 0 0, .int .u32 0, .int .i64 4]) ∧ Below w.heap.size w w'
  | some l => ∃ A n c, e = .returned (.tuple #[.slice A n c, .int .u32 lk, .int .i64 0]) ∧ w'.ownsRow w.heap.size 22 1 (.slice A n c) n (ucells l) ∧ Below w.heap.size w w'
theorem OwnPost10.any {o : Option (List Nat)} {lk : Nat} {w : World} {e : Ending} {w' : World} (h : OwnPost10 o lk w e w') : OfPost10 o lk w e w' := by
  revert h
  cases o with
  | none => exact fun h => h
  | some l =>
    rintro ⟨A, n, c, rfl, ho, hb⟩
    obtain ⟨A', c', he, h1, h2, _⟩ := own_form ho
    injection he with e1 e2 e3
    subst e1
    subst e3
    exact ⟨A, n, c, rfl, Reads.of_own ho, h1, h2, hb⟩
set_option maxRecDepth 100000 in
set_option maxHeartbeats 12800000 in
theorem rof10_own (kd ct : Int) (pg lk ty : Nat) (bd : ByteArray) (w : World) (hbd : bd.size ≤ 100000) :
    Calls Tryz.prog 36 #[.agg #[.int .i64 kd, .int .i64 ct, .int .u32 pg, .int .u32 lk, .int .u64 ty, .string bd]] w (OwnPost10 (readU kd ct pg lk ty bd) lk w) := by
  have Hbd := Lib.hid hbd
  obtain ⟨i0, hi0, hz0, hz1, hz2⟩ := info_parts infoU32
  obtain ⟨hzp, hi⟩ := zero_of_info infoPg
  have HI := Lib.hid hi
  clear hi
  obtain ⟨w0, hw0⟩ : ∃ x, x = w.alloc (.cells #[.int .i64 kd, .int .i64 ct, .int .u32 pg, .int .u32 lk, .int .u64 ty, .string bd] 37) := ⟨_, rfl⟩
  have Pp := Lib.hid (show Blk w0 w.heap.size 37 #[.int .i64 kd, .int .i64 ct, .int .u32 pg, .int .u32 lk, .int .u64 ty, .string bd] by rw [hw0]; exact Blk.new _ _ _)
  have HB := Lib.hid (show Below w.heap.size w w0 by rw [hw0]; exact (Below.refl _ _).alloc (Nat.le_refl _) _)
  go_enter Tryz.func36, Tryz.ntmps36
  go_upto_region 1 with fail
  rw [← hw0]
  clear hw0 hbd
  have p5 := Pp.out.cell 5
  simp at p5
  go_wp2_with fail
  refine (rnew_any' bd _).mono ?_
  rintro e w1 ⟨rfl, hrf, hb, hlt1⟩
  have hpg := Lib.hid Pp.out.lt
  replace Pp := Lib.hid (Pp.out.below hb Pp.out.lt)
  replace HB := Lib.hid (HB.out.trans (hb.mono HB.out.size))
  have HF := Lib.hid hrf
  clear hb hrf hlt1 p5
  generalize w0.heap.size = g at *
  go_wp2_with fail
  go_loopw [6, 7] (fun v i wr => ∃ (k : Nat) (A : Option Addr) (c : Nat) (l : List Nat) (r : List UInt8) (s : ByteArray), k ≤ ct.toNat ∧ i = .int .i64 k ∧ v = .slice A k c ∧ Hid (parseU k bd.data.toList = some (l, r)) ∧ Hid (s.data.toList = r) ∧ Hid (IsRf wr g s) ∧ Hid (wr.ownsRow (g + 1) 22 1 (.slice A k c) k (ucells l)) ∧ Hid (Blk wr w.heap.size 37 #[.int .i64 kd, .int .i64 ct, .int .u32 pg, .int .u32 lk, .int .u64 ty, .string bd]) ∧ Hid (Below w.heap.size w wr)) (fun _ i _ => ct.toNat - (intOf i).toNat)
  case atStart => exact ⟨0, none, 0, [], _, bd, Nat.zero_le _, rfl, rfl, Lib.hid rfl, Lib.hid rfl, HF, Lib.hid (World.ownsRow_nil _ _ _ _), Pp, HB⟩
  case round =>
    clear HF HB Pp
    obtain ⟨k, A, c, l, r, s, hk, rfl, rfl, HPr, HSr, HF, HO, Pp, HB⟩ := hrel
    have hk9 : k ≤ 100000 := by
      have h1 := parseU_size HPr.out
      rw [size_list] at h1
      have h3 := Hbd.out
      omega
    have p1 := Pp.out.cell 1
    simp at p1
    by_cases hlt : (k : Int) < ct
    · have hkc : k + 1 ≤ ct.toNat := by omega
      go_wp2_with fail
      refine (rnum_tot HF.out 4 (by decide) (by decide)).mono ?_
      rintro e w4 ⟨v3, x3, t3, rfl, hf, hg, hv3, hx3⟩
      have hbl := below_of_grown hg (Nat.le_of_lt hpg.out) HB.out.size
      replace HB := Lib.hid (HB.out.trans hbl)
      replace HO := Lib.hid (HO.out.kept hg (own_apart HO.out (Nat.lt_succ_self g)))
      replace Pp := Lib.hid (Blk.grown Pp.out hg (by intro h; injection h with h; have := hpg.out; omega))
      replace HF := Lib.hid hf
      have X3 := Lib.hid hx3
      clear hf hg hbl hx3 p1
      have hv3' : v3 < 4294967296 := hv3
      clear hv3
      have hw3 : IntKind.u32.wrap (v3 : Int) = (v3 : Int) := by rw [IntKind.wrap_u32]; omega
      have hst := step10_is X3.out
      rw [HSr.out] at hst
      rcases hsf : stepU r with _ | ⟨b, r'⟩
      · rw [hsf] at hst
        have HE := Lib.hid (show readU kd ct pg lk ty bd = none by
          have h1 := parseU_none (parseU_stop HPr.out hsf) (ct.toNat - (k + 1))
          rw [show k + 1 + (ct.toNat - (k + 1)) = ct.toNat by omega] at h1
          rw [readU, h1])
        have h3 : x3 ≠ 0 := hst
        clear hst hsf X3
        have q5 : (x3 != 0) = true := by simp [h3]
        have q6 : (x3 == 0) = false := by simp [h3]
        clear h3
        go_wp2_with fail
        go_ret3
        rw [HE.out]
        exact ⟨rfl, HB.out⟩
      · rw [hsf] at hst
        obtain ⟨e3, hbk, hsr⟩ : x3 = 0 ∧ b = v3 ∧ t3.data.toList = r' := hst
        subst e3
        have HP4 := Lib.hid (show parseU (k + 1) bd.data.toList = some (l ++ [v3], r') by rw [← hbk]; exact parseU_step HPr.out hsf)
        have HS4 := Lib.hid hsr
        clear hbk hsr hsf X3
        have HA := Lib.hid (HO.out.alloc (.cells #[.int .u32 v3] 22))
        have hgl : g + 1 ≤ w4.heap.size := Blk.lt HF.out
        have HB3 := Lib.hid (HB.out.alloc HB.out.size (.cells #[.int .u32 v3] 22))
        have HF3 := Lib.hid (show IsRf (w4.alloc (.cells #[.int .u32 v3] 22)) g t3 from Blk.alloc HF.out _)
        have Pp3 := Lib.hid (Pp.out.alloc (.cells #[.int .u32 v3] 22))
        go_upto_region 5 with (at_builtin; refine wpList_append_any _ rfl (.tmp 28) (.tmp 31) _ rfl (g + 1) 22 i0 _ 1 4 Tryz.underlying24 hi0 hz0 hz1 hz2 rfl (by omega) _ k _ rfl HA.out (w4.heap.size + 1) (some ⟨w4.heap.size, 0, none⟩) 1 1 (ucells [v3]) rfl (reads_own (n := 1) (Blk.new _ _ _) rfl) (ucells_one _) (by unfold maxLen; omega) (by omega) (by simp; omega) ?_; intro v5 w5 hown4 hg4 hat)
        clear hat
        rw [← ucells_append] at hown4
        obtain ⟨A4, c4, rfl, _, _, _⟩ := own_form hown4
        have HO4 := Lib.hid hown4
        have HF4 := Lib.hid (show IsRf w5 g t3 from Blk.grown HF3.out hg4 (own_ne HA.out (Nat.lt_succ_self g)))
        have Pp4 := Lib.hid (Blk.grown Pp3.out hg4 (own_ne HA.out (Nat.lt_succ_of_lt hpg.out)))
        have HB4 := Lib.hid (HB3.out.grown hg4 HB3.out.size (fun j hj => by have h1 := (HA.out.lt j hj).1; have h2 := hpg.out; omega))
        clear hown4 hg4 HA HB3 HF3 Pp3 HO HF HB Pp
        go_wp2_with fail
        go_roundw
        case rel =>
          first
            | exact ⟨k + 1, A4, c4, _, r', t3, by omega, by go_num, rfl, HP4, HS4, HF4, HO4, Pp4, HB4⟩
            | ((repeat apply Exists.intro); exact ⟨⟨k + 1, A4, c4, _, r', t3, by omega, by go_num, rfl, HP4, HS4, HF4, HO4, Pp4, HB4⟩, rfl⟩)
        case measure => simp [intOf]; omega
    · have hkc : k = ct.toNat := by omega
      have hlen := parseU_len HPr.out
      obtain ⟨z, hzz⟩ : ∃ z, z = bd.size + 24 := ⟨_, rfl⟩
      have hwz : wrap64 (z : Int) = (z : Int) := wrap64_nat z (by have := Hbd.out; omega)
      have hws2 : ((bd.size : Int) + 24) = (z : Int) := by omega
      have HZ := Lib.hid hzz
      have HQ := Lib.hid (show readU kd ct pg lk ty bd = if mayP10 z pg lk ty l && decide (kd = 6 ∧ ct = l.length ∧ bd = freeBody z l) then some l else none by rw [readU, ← hkc, HPr.out, hzz])
      obtain ⟨A', c', he, h1, h2, _⟩ := own_form HO.out
      injection he with e1 e2 e3
      subst e1
      subst e3
      have HR := Lib.hid (Reads.of_own HO.out)
      have HOw := Lib.hid (own_low HO.out (Nat.le_succ_of_le (Nat.le_of_lt hpg.out)))
      have HLn := Lib.hid hlen
      clear hzz hkc hlen h1 h2 HO HF p1
      have p1 := Pp.out.cell 1
      have p2 := Pp.out.cell 2
      have p3 := Pp.out.cell 3
      have p4 := Pp.out.cell 4
      have p5 := Pp.out.cell 5
      simp at p1 p2 p3 p4 p5
      rcases hy : mayP10 z pg lk ty l with _ | _
      · have HP := rpage10_no z pg lk ty A k c l wr HR.out (by unfold maxLen; omega) hy
        rw [hy] at HQ
        clear hy
        go_wp2_with fail
        refine HP.mono ?_
        rintro e w2 ⟨rfl, hb⟩
        replace HB := Lib.hid (HB.out.trans (hb.mono HB.out.size))
        clear hb HP
        go_wp2_with fail
        go_ret3
        rw [HQ.out]
        exact ⟨rfl, HB.out.alloc HB.out.size _⟩
      · have HP := rpage10_yes z pg lk ty A k c l wr HR.out hy
        obtain ⟨B, hB⟩ : ∃ B, B = freeBody z l := ⟨_, rfl⟩
        rw [← hB] at HP
        rw [hy, ← hB] at HQ
        clear hy hB
        go_wp2_with fail
        refine HP.mono ?_
        rintro e w2 ⟨rfl, hb⟩
        replace Pp := Lib.hid (Pp.out.below hb Pp.out.lt)
        replace HB := Lib.hid (HB.out.trans (hb.mono HB.out.size))
        replace HOw := Lib.hid (own_below HOw.out hb)
        clear hb HP p1 p2 p3 p4 p5
        obtain ⟨w3, hw3⟩ : ∃ x, x = w2.alloc (.cells #[.int .i64 6, .int .i64 k, .int .u32 pg, .int .u32 lk, .int .u64 ty, .string B] 37) := ⟨_, rfl⟩
        have Q := Lib.hid (show Blk w3 w2.heap.size 37 #[.int .i64 6, .int .i64 k, .int .u32 pg, .int .u32 lk, .int .u64 ty, .string B] by rw [hw3]; exact Blk.new _ _ _)
        replace Pp := Lib.hid (show Blk w3 w.heap.size 37 #[.int .i64 kd, .int .i64 ct, .int .u32 pg, .int .u32 lk, .int .u64 ty, .string bd] by rw [hw3]; exact Pp.out.alloc _)
        replace HB := Lib.hid (show Below w.heap.size w w3 by rw [hw3]; exact HB.out.alloc HB.out.size _)
        replace HOw := Lib.hid (show w3.ownsRow w.heap.size 22 1 (.slice A k c) k (ucells l) by rw [hw3]; exact HOw.out.alloc _)
        go_upto_region 11 with fail
        rw [← hw3]
        clear hw3 hws2 hwz
        generalize w2.heap.size = gQ at *
        have c0 := Pp.out.cell 0
        have c1 := Pp.out.cell 1
        have c2 := Pp.out.cell 2
        have c3 := Pp.out.cell 3
        have c4 := Pp.out.cell 4
        have c5 := Pp.out.cell 5
        have q0 := Q.out.cell 0
        have q1 := Q.out.cell 1
        have q2 := Q.out.cell 2
        have q3 := Q.out.cell 3
        have q4 := Q.out.cell 4
        have q5 := Q.out.cell 5
        simp at c0 c1 c2 c3 c4 c5 q0 q1 q2 q3 q4 q5
        by_cases hd : (6 : Int) = kd ∧ (k : Int) = ct ∧ B = bd
        · obtain ⟨rfl, rfl, rfl⟩ := hd
          have HE := Lib.hid (show readU 6 k pg lk ty B = some l by
            rw [HQ.out, if_pos]
            have := HLn.out
            simp
            omega)
          have hpq := fun w => page10_neq_no 6 k pg lk ty B w
          go_wp2_with fail
          go_quiet (fail)
          go_wp2_with fail
          go_ret3
          rw [HE.out]
          exact ⟨A, k, c, rfl, own_below HOw.out (below_drewN (Below.refl _ _) _), below_drewN HB.out _⟩
        · have HE := Lib.hid (show readU kd ct pg lk ty bd = none by
            rw [HQ.out, decide_eq_false (fun ⟨e1, e2, e3⟩ => hd ⟨e1.symm, by have := HLn.out; omega, e3.symm⟩), Bool.and_false]
            rfl)
          have hpq := fun w => page10_neq_yes 6 k pg lk ty B kd ct pg lk ty bd w (by intro ⟨e1, e2, _, _, _, e6⟩; exact hd ⟨e1, e2, e6⟩)
          clear hd
          go_wp2_with fail
          go_ret3
          rw [HE.out]
          exact ⟨rfl, HB.out⟩
theorem rof10_any (kd ct : Int) (pg lk ty : Nat) (bd : ByteArray) (w : World) (hbd : bd.size ≤ 100000) :
    Calls Tryz.prog 36 #[.agg #[.int .i64 kd, .int .i64 ct, .int .u32 pg, .int .u32 lk, .int .u64 ty, .string bd]] w (OfPost10 (readU kd ct pg lk ty bd) lk w) :=
  (rof10_own kd ct pg lk ty bd w hbd).mono fun _ _ h => h.any
end Go.Proofs.YtabhhccdbfjigaaGreat
