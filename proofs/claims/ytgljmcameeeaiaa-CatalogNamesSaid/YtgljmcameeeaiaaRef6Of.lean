/-
  Contract of the reference's Of of layer 6: the buckets of which a page is the page.
-/
import Derived.Test.YtgljmcameeeaiaaCatParse
import Derived.Test.YtgljmcameeeaiaaRef6Page
import Derived.Test.YtgljmcameeeaiaaRef6Set
import Derived.Deep.CutRange
namespace Go.Proofs.Ytgljmcameeeaiaa
open Go.RowKit
open Go.Lib hiding intOf
set_option linter.unusedVariables false
set_option linter.unusedSimpArgs false
attribute [local go_sem ↓] Go.wp_at_zero Go.wp_at_succ

theorem page_eql_yes (a0 a1 a2 a3 a4 : Int) (a5 : ByteArray) (w : World) : (binOp .eql 26 (.agg #[.int .i64 a0, .int .i64 a1, .int .u32 a2, .int .u32 a3, .int .u64 a4, .string a5]) (.agg #[.int .i64 a0, .int .i64 a1, .int .u32 a2, .int .u32 a3, .int .u64 a4, .string a5])).run Try.prog w = .ok (.bool true) w := by
  simp [go_sem]
theorem page_eql_no (a0 a1 a2 a3 a4 : Int) (a5 : ByteArray) (b0 b1 b2 b3 b4 : Int) (b5 : ByteArray) (w : World) (h : ¬ (a0 = b0 ∧ a1 = b1 ∧ a2 = b2 ∧ a3 = b3 ∧ a4 = b4 ∧ a5 = b5)) : (binOp .eql 26 (.agg #[.int .i64 a0, .int .i64 a1, .int .u32 a2, .int .u32 a3, .int .u64 a4, .string a5]) (.agg #[.int .i64 b0, .int .i64 b1, .int .u32 b2, .int .u32 b3, .int .u64 b4, .string b5])).run Try.prog w = .ok (.bool false) w := by
  simp [go_sem]
  intro h0 h1 h2 h3 h4 h5
  rw [ByteArray.toList_eq, ByteArray.toList_eq] at h5
  exact h ⟨h0, h1, h2, h3, h4, bytes_ext h5⟩
theorem rsame6_yes (a0 a1 : Int) (a2 a3 a4 : Nat) (a5 : ByteArray) (w : World) : Calls Try.prog 48 #[.agg #[.int .i64 a0, .int .i64 a1, .int .u32 a2, .int .u32 a3, .int .u64 a4, .string a5], .agg #[.int .i64 a0, .int .i64 a1, .int .u32 a2, .int .u32 a3, .int .u64 a4, .string a5]] w fun e w' => e = .returned (.bool true) ∧ Below w.heap.size w w' := by
  have h := fun w => page_eql_yes a0 a1 a2 a3 a4 a5 w
  go_enter Try.func48, Try.ntmps48
  go_wp2
  go_ret
  exact ⟨rfl, ((Below.refl _ _).alloc (Nat.le_refl _) _).alloc (by simp) _⟩
theorem rsame6_no (a0 a1 : Int) (a2 a3 a4 : Nat) (a5 : ByteArray) (b0 b1 : Int) (b2 b3 b4 : Nat) (b5 : ByteArray) (w : World) (hd : ¬ (a0 = b0 ∧ a1 = b1 ∧ a2 = b2 ∧ a3 = b3 ∧ a4 = b4 ∧ a5 = b5)) : Calls Try.prog 48 #[.agg #[.int .i64 a0, .int .i64 a1, .int .u32 a2, .int .u32 a3, .int .u64 a4, .string a5], .agg #[.int .i64 b0, .int .i64 b1, .int .u32 b2, .int .u32 b3, .int .u64 b4, .string b5]] w fun e w' => e = .returned (.bool false) ∧ Below w.heap.size w w' := by
  have h := fun w => page_eql_no a0 a1 a2 a3 a4 a5 b0 b1 b2 b3 b4 b5 w (by intro ⟨e0, e1, e2, e3, e4, e5⟩; exact hd ⟨e0, e1, by omega, by omega, by omega, e5⟩)
  clear hd
  go_enter Try.func48, Try.ntmps48
  go_wp2
  go_ret
  exact ⟨rfl, ((Below.refl _ _).alloc (Nat.le_refl _) _).alloc (by simp) _⟩
theorem rnumber_tot {w : World} {g : Nat} {s : ByteArray} (h : IsRf w g s) (k : Nat) (h1 : 1 ≤ k) (h2 : k ≤ 8) :
    Calls Try.prog 46 #[.pointer (some ⟨g, 0, none⟩), .int .i64 k] w fun e w' => ∃ (v : Nat) (x : Int) (s' : ByteArray), e = .returned (.tuple #[.int .u64 v, .int .i64 x]) ∧ IsRf w' g s' ∧ w.grownBy w' (some g) := by
  by_cases hs : k ≤ s.size
  · exact (rnumber_ok' h k h1 h2 hs).mono fun _ _ ⟨he, h3, h4⟩ => ⟨_, _, _, he, h3, h4⟩
  · exact (rnumber_more h k (by omega) (by omega) (by omega)).mono fun _ _ ⟨he, hw⟩ => ⟨0, 7, s, he, by subst hw; exact ⟨h, World.grownBy.refl _ _⟩⟩
theorem rnumber_less {w : World} {g : Nat} {s : ByteArray} (h : IsRf w g s) (k : Nat) (h1 : 1 ≤ k) (h2 : k ≤ 8) (hs : s.size < k) :
    Calls Try.prog 46 #[.pointer (some ⟨g, 0, none⟩), .int .i64 k] w fun e w' => e = .returned (.tuple #[.int .u64 0, .int .i64 7]) ∧ IsRf w' g s ∧ w.grownBy w' (some g) :=
  (rnumber_more h k (by omega) (by omega) (by omega)).mono fun _ _ ⟨he, hw⟩ => ⟨he, by subst hw; exact ⟨h, World.grownBy.refl _ _⟩⟩
theorem rbytes_less {w : World} {g : Nat} {s : ByteArray} (h : IsRf w g s) (n : Nat) (hn : s.size < n) :
    Calls Try.prog 47 #[.pointer (some ⟨g, 0, none⟩), .int .i64 n] w fun e w' => e = .returned (.tuple #[.string ⟨#[]⟩, .int .i64 7]) ∧ IsRf w' g s ∧ w.grownBy w' (some g) :=
  (rbytes_more h n (by omega)).mono fun _ _ ⟨he, hw⟩ => ⟨he, by subst hw; exact ⟨h, World.grownBy.refl _ _⟩⟩
theorem own_apart {w : World} {base : Nat} {e : TypeId} {size : Nat} {v : Value} {n : Nat} {xs : List Value} (h : w.ownsRow base e size v n xs) {g : Nat} (hg : g < base) : v.ownBlock = none ∨ v.ownBlock ≠ some g := by
  rcases hv : v.ownBlock with _ | k
  · exact .inl rfl
  · refine .inr fun he => ?_
    injection he with he
    have := (h.lt k hv).1
    omega
theorem own_ne {w : World} {base : Nat} {e : TypeId} {size : Nat} {v : Value} {n : Nat} {xs : List Value} (h : w.ownsRow base e size v n xs) {g : Nat} (hg : g < base) : some g ≠ v.ownBlock := fun he => by
  have := (h.lt g he.symm).1
  omega
theorem list_one {l : List UInt8} (h : 1 ≤ l.length) : ∃ b t, l = b :: t := by
  cases l with
  | nil => simp at h
  | cons b t => exact ⟨b, t, rfl⟩

def OfPost (o : Option (List Bk)) (w : World) (e : Ending) (w' : World) : Prop :=
  match o with
  | none => e = .returned (.tuple #[.slice none 0 0, .int .i64 4]) ∧ Below w.heap.size w w'
  | some l => ∃ A n c, e = .returned (.tuple #[.slice A n c, .int .i64 0]) ∧ Reads w' w'.heap.size 3 A n (bkc l) ∧ n ≤ c ∧ c ≤ maxLen ∧ Below w.heap.size w w'
set_option maxRecDepth 100000 in
set_option maxHeartbeats 12800000 in
theorem rof6_any (kd ct : Int) (pg lk ty : Nat) (bd : ByteArray) (w : World) (hbd : bd.size ≤ 100000) :
    Calls Try.prog 21 #[.agg #[.int .i64 kd, .int .i64 ct, .int .u32 pg, .int .u32 lk, .int .u64 ty, .string bd]] w (OfPost (readC kd ct pg lk ty bd) w) := by
  have Hbd := Lib.hid hbd
  obtain ⟨i0, hi0, hz0, hz1, hz2⟩ := info_parts infoBk
  obtain ⟨hz, hi⟩ := zero_of_info infoPg
  have HI := Lib.hid hi
  clear hi
  obtain ⟨w0, hw0⟩ : ∃ x, x = w.alloc (.cells #[.int .i64 kd, .int .i64 ct, .int .u32 pg, .int .u32 lk, .int .u64 ty, .string bd] 26) := ⟨_, rfl⟩
  have Pp := Lib.hid (show Blk w0 w.heap.size 26 #[.int .i64 kd, .int .i64 ct, .int .u32 pg, .int .u32 lk, .int .u64 ty, .string bd] by rw [hw0]; exact Blk.new _ _ _)
  have HB := Lib.hid (show Below w.heap.size w w0 by rw [hw0]; exact (Below.refl _ _).alloc (Nat.le_refl _) _)
  have p5 := Pp.out.cell 5
  simp at p5
  go_enter Try.func21, Try.ntmps21
  go_wp2_with fail
  rw [← hw0]
  clear hw0
  have p5 := Pp.out.cell 5
  simp at p5
  go_wp2_with fail
  refine (rnew_any' bd _).mono ?_
  rintro e w1 ⟨rfl, hrf, hb, hlt1⟩
  have hpg := Lib.hid Pp.out.lt
  replace Pp := Lib.hid (Pp.out.below hb Pp.out.lt)
  have hgw := Lib.hid HB.out.size
  replace HB := Lib.hid (HB.out.trans (hb.mono HB.out.size))
  have HF := Lib.hid hrf
  have HLT := Lib.hid hlt1
  clear hb hrf hlt1 p5
  generalize w0.heap.size = g at *
  go_wp2_with fail
  go_loopw [5, 6] (fun v i wr => ∃ (k : Nat) (A : Option Addr) (c : Nat) (l : List Bk) (r : List UInt8) (s : ByteArray), k ≤ ct.toNat ∧ i = .int .i64 k ∧ v = .slice A k c ∧ Hid (parseB k bd.data.toList = some (l, r)) ∧ Hid (s.data.toList = r) ∧ Hid (IsRf wr g s) ∧ Hid (wr.ownsRow (g + 1) 33 3 (.slice A k c) k (bkc l)) ∧ Hid (Blk wr w.heap.size 26 #[.int .i64 kd, .int .i64 ct, .int .u32 pg, .int .u32 lk, .int .u64 ty, .string bd]) ∧ Hid (Below w.heap.size w wr)) (fun _ i _ => ct.toNat - (intOf i).toNat)
  case atStart => exact ⟨0, none, 0, [], _, bd, Nat.zero_le _, rfl, rfl, Lib.hid rfl, Lib.hid rfl, HF, Lib.hid (World.ownsRow_nil _ _ _ _), Pp, HB⟩
  case round =>
    clear HF HLT Pp HB
    obtain ⟨k, A, c, l, r, s, hk, rfl, rfl, HPr, HSr, HF, HO, Pp, HB⟩ := hrel
    have p1 := Pp.out.cell 1
    simp at p1
    have hk9 : k ≤ 100000 := by
      have h1 := parseB_size HPr.out
      have h2 := nine_le l
      rw [parseB_len HPr.out] at h2
      rw [size_list] at h1
      omega
    have hsr : s.size = r.length := by rw [← HSr.out, size_list]
    have hgl := HF.out.lt
    by_cases hlt : (k : Int) < ct
    · have hkc : k + 1 ≤ ct.toNat := by omega
      rcases hst : stepB r with _ | ⟨b, r'⟩
      · have HE := Lib.hid (show readC kd ct pg lk ty bd = none by
          have h1 := parseB_none (parseB_stop HPr.out hst) (ct.toNat - (k + 1))
          rw [show k + 1 + (ct.toNat - (k + 1)) = ct.toNat by omega] at h1
          rw [readC, h1])
        have hs9 : r.length ≤ 100000 := by
          have h1 := parseB_size HPr.out
          rw [size_list] at h1
          omega
        by_cases hr0 : r.length = 0
        · go_wp2_with fail
          refine (rnumber_less HF.out 1 (by decide) (by decide) (by omega)).mono ?_
          rintro e w11 ⟨rfl, hrf, hg⟩
          have hbl11 := below_of_grown hg (Nat.le_of_lt hpg.out) (by have := HB.out.size; omega)
          replace HB := Lib.hid (HB.out.trans hbl11)
          replace Pp := Lib.hid (Blk.grown Pp.out hg (by intro h; injection h with h; have := hpg.out; omega))
          replace HO := Lib.hid (HO.out.kept hg (own_apart HO.out (Nat.lt_succ_self g)))
          replace HF := Lib.hid hrf
          clear hg hrf hbl11
          go_wp2_with fail
          refine (rbytes_ok' HF.out 0 (Nat.zero_le _)).mono ?_
          rintro e w12 ⟨rfl, hrf, hg⟩
          have hbl12 := below_of_grown hg (Nat.le_of_lt hpg.out) (by have := HB.out.size; omega)
          replace HB := Lib.hid (HB.out.trans hbl12)
          replace Pp := Lib.hid (Blk.grown Pp.out hg (by intro h; injection h with h; have := hpg.out; omega))
          replace HO := Lib.hid (HO.out.kept hg (own_apart HO.out (Nat.lt_succ_self g)))
          replace HF := Lib.hid hrf
          clear hg hrf hbl12
          go_wp2_with fail
          refine (rnumber_tot HF.out 4 (by decide) (by decide)).mono ?_
          rintro e w13 ⟨v13, x13, s13, rfl, hrf, hg⟩
          have hbl13 := below_of_grown hg (Nat.le_of_lt hpg.out) (by have := HB.out.size; omega)
          replace HB := Lib.hid (HB.out.trans hbl13)
          replace Pp := Lib.hid (Blk.grown Pp.out hg (by intro h; injection h with h; have := hpg.out; omega))
          replace HO := Lib.hid (HO.out.kept hg (own_apart HO.out (Nat.lt_succ_self g)))
          replace HF := Lib.hid hrf
          clear hg hrf hbl13
          go_wp2_with fail
          refine (rnumber_tot HF.out 4 (by decide) (by decide)).mono ?_
          rintro e w14 ⟨v14, x14, s14, rfl, hrf, hg⟩
          have hbl14 := below_of_grown hg (Nat.le_of_lt hpg.out) (by have := HB.out.size; omega)
          replace HB := Lib.hid (HB.out.trans hbl14)
          replace Pp := Lib.hid (Blk.grown Pp.out hg (by intro h; injection h with h; have := hpg.out; omega))
          replace HO := Lib.hid (HO.out.kept hg (own_apart HO.out (Nat.lt_succ_self g)))
          replace HF := Lib.hid hrf
          clear hg hrf hbl14
          go_wp2_with fail
          go_ret2
          exact (show OfPost none w _ _ from ⟨rfl, HB.out⟩) |> fun h => by rw [HE.out]; exact h
        obtain ⟨nb, t, rfl⟩ := list_one (l := r) (by omega)
        have hnb := nb.toNat_lt
        have hlen : t.length < nb.toNat + 8 := by
          simp only [stepB] at hst
          split at hst
          · assumption
          · cases hst
        have hv : leNat (s.data.toList.take 1) = nb.toNat := by rw [HSr.out]; simp [leNat]
        have hs1 : (s.extract 1 s.size).size = t.length := by rw [ByteArray.size_extract, hsr]; simp
        clear hst
        by_cases ht1 : t.length < nb.toNat
        · go_wp2_with fail
          have HN1 := rnumber_ok' HF.out 1 (by decide) (by decide) (by omega)
          rw [hv] at HN1
          refine HN1.mono ?_
          rintro e w11 ⟨rfl, hrf, hg⟩
          have hbl11 := below_of_grown hg (Nat.le_of_lt hpg.out) (by have := HB.out.size; omega)
          replace HB := Lib.hid (HB.out.trans hbl11)
          replace Pp := Lib.hid (Blk.grown Pp.out hg (by intro h; injection h with h; have := hpg.out; omega))
          replace HO := Lib.hid (HO.out.kept hg (own_apart HO.out (Nat.lt_succ_self g)))
          replace HF := Lib.hid hrf
          clear hg hrf hbl11
          clear HN1
          go_wp2_with fail
          refine (rbytes_less HF.out nb.toNat (by omega)).mono ?_
          rintro e w12 ⟨rfl, hrf, hg⟩
          have hbl12 := below_of_grown hg (Nat.le_of_lt hpg.out) (by have := HB.out.size; omega)
          replace HB := Lib.hid (HB.out.trans hbl12)
          replace Pp := Lib.hid (Blk.grown Pp.out hg (by intro h; injection h with h; have := hpg.out; omega))
          replace HO := Lib.hid (HO.out.kept hg (own_apart HO.out (Nat.lt_succ_self g)))
          replace HF := Lib.hid hrf
          clear hg hrf hbl12
          go_wp2_with fail
          refine (rnumber_tot HF.out 4 (by decide) (by decide)).mono ?_
          rintro e w13 ⟨v13, x13, s13, rfl, hrf, hg⟩
          have hbl13 := below_of_grown hg (Nat.le_of_lt hpg.out) (by have := HB.out.size; omega)
          replace HB := Lib.hid (HB.out.trans hbl13)
          replace Pp := Lib.hid (Blk.grown Pp.out hg (by intro h; injection h with h; have := hpg.out; omega))
          replace HO := Lib.hid (HO.out.kept hg (own_apart HO.out (Nat.lt_succ_self g)))
          replace HF := Lib.hid hrf
          clear hg hrf hbl13
          go_wp2_with fail
          refine (rnumber_tot HF.out 4 (by decide) (by decide)).mono ?_
          rintro e w14 ⟨v14, x14, s14, rfl, hrf, hg⟩
          have hbl14 := below_of_grown hg (Nat.le_of_lt hpg.out) (by have := HB.out.size; omega)
          replace HB := Lib.hid (HB.out.trans hbl14)
          replace Pp := Lib.hid (Blk.grown Pp.out hg (by intro h; injection h with h; have := hpg.out; omega))
          replace HO := Lib.hid (HO.out.kept hg (own_apart HO.out (Nat.lt_succ_self g)))
          replace HF := Lib.hid hrf
          clear hg hrf hbl14
          go_wp2_with fail
          go_ret2
          exact (show OfPost none w _ _ from ⟨rfl, HB.out⟩) |> fun h => by rw [HE.out]; exact h
        have hs2 : ((s.extract 1 s.size).extract nb.toNat (s.extract 1 s.size).size).size = t.length - nb.toNat := by rw [ByteArray.size_extract, hs1]; omega
        by_cases ht2 : t.length - nb.toNat < 4
        · go_wp2_with fail
          have HN1 := rnumber_ok' HF.out 1 (by decide) (by decide) (by omega)
          rw [hv] at HN1
          refine HN1.mono ?_
          rintro e w11 ⟨rfl, hrf, hg⟩
          have hbl11 := below_of_grown hg (Nat.le_of_lt hpg.out) (by have := HB.out.size; omega)
          replace HB := Lib.hid (HB.out.trans hbl11)
          replace Pp := Lib.hid (Blk.grown Pp.out hg (by intro h; injection h with h; have := hpg.out; omega))
          replace HO := Lib.hid (HO.out.kept hg (own_apart HO.out (Nat.lt_succ_self g)))
          replace HF := Lib.hid hrf
          clear hg hrf hbl11
          clear HN1
          go_wp2_with fail
          have HN2 := rbytes_ok' HF.out nb.toNat (by omega)
          refine HN2.mono ?_
          rintro e w12 ⟨rfl, hrf, hg⟩
          have hbl12 := below_of_grown hg (Nat.le_of_lt hpg.out) (by have := HB.out.size; omega)
          replace HB := Lib.hid (HB.out.trans hbl12)
          replace Pp := Lib.hid (Blk.grown Pp.out hg (by intro h; injection h with h; have := hpg.out; omega))
          replace HO := Lib.hid (HO.out.kept hg (own_apart HO.out (Nat.lt_succ_self g)))
          replace HF := Lib.hid hrf
          clear hg hrf hbl12
          clear HN2
          go_wp2_with fail
          refine (rnumber_less HF.out 4 (by decide) (by decide) (by omega)).mono ?_
          rintro e w13 ⟨rfl, hrf, hg⟩
          have hbl13 := below_of_grown hg (Nat.le_of_lt hpg.out) (by have := HB.out.size; omega)
          replace HB := Lib.hid (HB.out.trans hbl13)
          replace Pp := Lib.hid (Blk.grown Pp.out hg (by intro h; injection h with h; have := hpg.out; omega))
          replace HO := Lib.hid (HO.out.kept hg (own_apart HO.out (Nat.lt_succ_self g)))
          replace HF := Lib.hid hrf
          clear hg hrf hbl13
          go_wp2_with fail
          refine (rnumber_tot HF.out 4 (by decide) (by decide)).mono ?_
          rintro e w14 ⟨v14, x14, s14, rfl, hrf, hg⟩
          have hbl14 := below_of_grown hg (Nat.le_of_lt hpg.out) (by have := HB.out.size; omega)
          replace HB := Lib.hid (HB.out.trans hbl14)
          replace Pp := Lib.hid (Blk.grown Pp.out hg (by intro h; injection h with h; have := hpg.out; omega))
          replace HO := Lib.hid (HO.out.kept hg (own_apart HO.out (Nat.lt_succ_self g)))
          replace HF := Lib.hid hrf
          clear hg hrf hbl14
          go_wp2_with fail
          go_ret2
          exact (show OfPost none w _ _ from ⟨rfl, HB.out⟩) |> fun h => by rw [HE.out]; exact h
        have hs3 : (((s.extract 1 s.size).extract nb.toNat (s.extract 1 s.size).size).extract 4 ((s.extract 1 s.size).extract nb.toNat (s.extract 1 s.size).size).size).size = t.length - nb.toNat - 4 := by rw [ByteArray.size_extract, hs2]; omega
        go_wp2_with fail
        have HN1 := rnumber_ok' HF.out 1 (by decide) (by decide) (by omega)
        rw [hv] at HN1
        refine HN1.mono ?_
        rintro e w11 ⟨rfl, hrf, hg⟩
        have hbl11 := below_of_grown hg (Nat.le_of_lt hpg.out) (by have := HB.out.size; omega)
        replace HB := Lib.hid (HB.out.trans hbl11)
        replace Pp := Lib.hid (Blk.grown Pp.out hg (by intro h; injection h with h; have := hpg.out; omega))
        replace HO := Lib.hid (HO.out.kept hg (own_apart HO.out (Nat.lt_succ_self g)))
        replace HF := Lib.hid hrf
        clear hg hrf hbl11
        clear HN1
        go_wp2_with fail
        have HN2 := rbytes_ok' HF.out nb.toNat (by omega)
        refine HN2.mono ?_
        rintro e w12 ⟨rfl, hrf, hg⟩
        have hbl12 := below_of_grown hg (Nat.le_of_lt hpg.out) (by have := HB.out.size; omega)
        replace HB := Lib.hid (HB.out.trans hbl12)
        replace Pp := Lib.hid (Blk.grown Pp.out hg (by intro h; injection h with h; have := hpg.out; omega))
        replace HO := Lib.hid (HO.out.kept hg (own_apart HO.out (Nat.lt_succ_self g)))
        replace HF := Lib.hid hrf
        clear hg hrf hbl12
        clear HN2
        go_wp2_with fail
        refine (rnumber_ok' HF.out 4 (by decide) (by decide) (by omega)).mono ?_
        rintro e w13 ⟨rfl, hrf, hg⟩
        have hbl13 := below_of_grown hg (Nat.le_of_lt hpg.out) (by have := HB.out.size; omega)
        replace HB := Lib.hid (HB.out.trans hbl13)
        replace Pp := Lib.hid (Blk.grown Pp.out hg (by intro h; injection h with h; have := hpg.out; omega))
        replace HO := Lib.hid (HO.out.kept hg (own_apart HO.out (Nat.lt_succ_self g)))
        replace HF := Lib.hid hrf
        clear hg hrf hbl13
        go_wp2_with fail
        refine (rnumber_less HF.out 4 (by decide) (by decide) (by omega)).mono ?_
        rintro e w14 ⟨rfl, hrf, hg⟩
        have hbl14 := below_of_grown hg (Nat.le_of_lt hpg.out) (by have := HB.out.size; omega)
        replace HB := Lib.hid (HB.out.trans hbl14)
        replace Pp := Lib.hid (Blk.grown Pp.out hg (by intro h; injection h with h; have := hpg.out; omega))
        replace HO := Lib.hid (HO.out.kept hg (own_apart HO.out (Nat.lt_succ_self g)))
        replace HF := Lib.hid hrf
        clear hg hrf hbl14
        go_wp2_with fail
        go_ret2
        exact (show OfPost none w _ _ from ⟨rfl, HB.out⟩) |> fun h => by rw [HE.out]; exact h
      · have hs9 : r.length ≤ 100000 := by
          have h1 := parseB_size HPr.out
          rw [size_list] at h1
          omega
        have HP2 := Lib.hid (parseB_step HPr.out hst)
        obtain ⟨nb, t, rfl⟩ := list_one (l := r) (by have := stepB_size hst; omega)
        have hnb := nb.toNat_lt
        have hlen : nb.toNat + 8 ≤ t.length := by
          simp only [stepB] at hst
          split at hst
          · cases hst
          · omega
        simp only [stepB] at hst
        rw [if_neg (by omega)] at hst
        injection hst with hst
        injection hst with hbb hrr
        have hv : leNat (s.data.toList.take 1) = nb.toNat := by rw [HSr.out]; simp [leNat]
        have l1 : (s.extract 1 s.size).data.toList = t := by rw [ext_list, HSr.out]; simp [hsr]
        have hs1 : (s.extract 1 s.size).size = t.length := by rw [← size_list, l1]
        obtain ⟨S1, hS1⟩ : ∃ S, S = s.extract 1 s.size := ⟨_, rfl⟩
        rw [← hS1] at l1 hs1
        have l2 : (S1.extract nb.toNat S1.size).data.toList = t.drop nb.toNat := by rw [ext_list, l1, List.take_of_length_le (by rw [List.length_drop, hs1]; omega)]
        have hs2 : (S1.extract nb.toNat S1.size).size = t.length - nb.toNat := by rw [← size_list, l2, List.length_drop]
        obtain ⟨S2, hS2⟩ : ∃ S, S = S1.extract nb.toNat S1.size := ⟨_, rfl⟩
        rw [← hS2] at l2 hs2
        have l3 : (S2.extract 4 S2.size).data.toList = (t.drop nb.toNat).drop 4 := by rw [ext_list, l2, List.take_of_length_le (by rw [List.length_drop, List.length_drop, hs2]; omega)]
        have hs3 : (S2.extract 4 S2.size).size = t.length - nb.toNat - 4 := by rw [← size_list, l3, List.length_drop, List.length_drop]
        obtain ⟨S3, hS3⟩ : ∃ S, S = S2.extract 4 S2.size := ⟨_, rfl⟩
        rw [← hS3] at l3 hs3
        have l4 : (S3.extract 4 S3.size).data.toList = ((t.drop nb.toNat).drop 4).drop 4 := by rw [ext_list, l3, List.take_of_length_le (by rw [List.length_drop, List.length_drop, List.length_drop, hs3]; omega)]
        obtain ⟨S4, hS4⟩ : ∃ S, S = S3.extract 4 S3.size := ⟨_, rfl⟩
        rw [← hS4] at l4
        obtain ⟨N, hN⟩ : ∃ N, N = S1.extract 0 nb.toNat := ⟨_, rfl⟩
        obtain ⟨R, hR⟩ : ∃ R, R = leNat (S2.data.toList.take 4) := ⟨_, rfl⟩
        obtain ⟨K, hK⟩ : ∃ K, K = leNat (S3.data.toList.take 4) := ⟨_, rfl⟩
        have hRl : R < 4294967296 := by rw [hR]; have := leNat_lt (S2.data.toList.take 4); rw [List.length_take, size_list, hs2, show min 4 (t.length - nb.toNat) = 4 by omega] at this; exact this
        have hKl : K < 4294967296 := by rw [hK]; have := leNat_lt (S3.data.toList.take 4); rw [List.length_take, size_list, hs3, show min 4 (t.length - nb.toNat - 4) = 4 by omega] at this; exact this
        obtain rfl : b = ⟨N, R, (K : Int)⟩ := by
          rw [← hbb]
          refine Bk.ext_ ?_ ?_ ?_
          · show (⟨(t.take nb.toNat).toArray⟩ : ByteArray) = N
            rw [hN]; apply bytes_ext; rw [ext_list, l1]; simp
          · show leNat ((t.drop nb.toNat).take 4) = R
            rw [hR, l2]
          · show ((leNat (((t.drop nb.toNat).drop 4).take 4) : Nat) : Int) = (K : Int)
            rw [hK, l3]
        have HS4 := Lib.hid (show S4.data.toList = r' by rw [l4, hrr])
        have hsr1 : s.size = t.length + 1 := by rw [hsr]; rfl
        have KN := Lib.hid hN
        have KR := Lib.hid hR
        have KK := Lib.hid hK
        have K1 := Lib.hid hS1
        have K2 := Lib.hid hS2
        have K3 := Lib.hid hS3
        have K4 := Lib.hid hS4
        have KV := Lib.hid hv
        have q1 : 1 ≤ s.size := by omega
        have q2 : nb.toNat ≤ S1.size := by omega
        have q3 : 4 ≤ S2.size := by omega
        have q4 : 4 ≤ S3.size := by omega
        clear hbb hrr l1 l2 l3 l4 hN hR hK hS1 hS2 hS3 hS4 hv hs1 hs2 hs3 hsr hsr1 hlen hs9
        go_wp2_with fail
        have HN1 := rnumber_ok' HF.out 1 (by decide) (by decide) (by omega)
        rw [KV.out, ← K1.out] at HN1
        refine HN1.mono ?_
        rintro e w11 ⟨rfl, hrf, hg⟩
        have hbl11 := below_of_grown hg (Nat.le_of_lt hpg.out) (by have := HB.out.size; omega)
        replace HB := Lib.hid (HB.out.trans hbl11)
        replace Pp := Lib.hid (Blk.grown Pp.out hg (by intro h; injection h with h; have := hpg.out; omega))
        replace HO := Lib.hid (HO.out.kept hg (own_apart HO.out (Nat.lt_succ_self g)))
        replace HF := Lib.hid hrf
        clear hg hrf hbl11
        clear HN1
        go_wp2_with fail
        have HN2 := rbytes_ok' HF.out nb.toNat (by omega)
        rw [← KN.out, ← K2.out] at HN2
        refine HN2.mono ?_
        rintro e w12 ⟨rfl, hrf, hg⟩
        have hbl12 := below_of_grown hg (Nat.le_of_lt hpg.out) (by have := HB.out.size; omega)
        replace HB := Lib.hid (HB.out.trans hbl12)
        replace Pp := Lib.hid (Blk.grown Pp.out hg (by intro h; injection h with h; have := hpg.out; omega))
        replace HO := Lib.hid (HO.out.kept hg (own_apart HO.out (Nat.lt_succ_self g)))
        replace HF := Lib.hid hrf
        clear hg hrf hbl12
        clear HN2
        go_wp2_with fail
        have HN3 := rnumber_ok' HF.out 4 (by decide) (by decide) (by omega)
        rw [← KR.out, ← K3.out] at HN3
        refine HN3.mono ?_
        rintro e w13 ⟨rfl, hrf, hg⟩
        have hbl13 := below_of_grown hg (Nat.le_of_lt hpg.out) (by have := HB.out.size; omega)
        replace HB := Lib.hid (HB.out.trans hbl13)
        replace Pp := Lib.hid (Blk.grown Pp.out hg (by intro h; injection h with h; have := hpg.out; omega))
        replace HO := Lib.hid (HO.out.kept hg (own_apart HO.out (Nat.lt_succ_self g)))
        replace HF := Lib.hid hrf
        clear hg hrf hbl13
        clear HN3
        go_wp2_with fail
        have HN4 := rnumber_ok' HF.out 4 (by decide) (by decide) (by omega)
        rw [← KK.out, ← K4.out] at HN4
        refine HN4.mono ?_
        rintro e w14 ⟨rfl, hrf, hg⟩
        have hbl14 := below_of_grown hg (Nat.le_of_lt hpg.out) (by have := HB.out.size; omega)
        replace HB := Lib.hid (HB.out.trans hbl14)
        replace Pp := Lib.hid (Blk.grown Pp.out hg (by intro h; injection h with h; have := hpg.out; omega))
        replace HO := Lib.hid (HO.out.kept hg (own_apart HO.out (Nat.lt_succ_self g)))
        replace HF := Lib.hid hrf
        clear hg hrf hbl14
        clear HN4 hnb q1 q2 q3 q4
        have HA := Lib.hid (fun (cs : Array Value) => HO.out.alloc (.cells cs 33))
        have hgs := HF.out.lt
        go_wp2_with (at_builtin; refine wpList_append_any _ rfl (.tmp 62) (.tmp 69) _ rfl (g + 1) 33 i0 _ 3 32 Try.underlying30 hi0 hz0 hz1 hz2 rfl (by omega) _ k _ rfl (HA.out _) (w14.heap.size + 1) (some ⟨w14.heap.size, 0, none⟩) 1 1 (Bk.cells ⟨N, R, (K : Int)⟩) rfl (reads_own (n := 1) (Blk.new _ _ _) rfl) (bk_one _) (by unfold maxLen; omega) (by omega) (by simp; omega) ?_; intro v5 w5 hown5 hg5 hat5)
        rw [bkc_snoc] at hown5
        obtain ⟨A5, c5, rfl, _, _, _⟩ := own_form hown5
        replace hg5 : (w14.alloc (.cells #[.string N, .int .u32 R, .int .i64 K] 33)).grownBy w5 (Value.slice A k c).ownBlock := hg5
        replace HF := Lib.hid (Blk.grown (Blk.alloc HF.out _) hg5 (own_ne HO.out (Nat.lt_succ_self g)))
        replace Pp := Lib.hid (Blk.grown (Blk.alloc Pp.out _) hg5 (own_ne HO.out (Nat.lt_succ_of_lt hpg.out)))
        replace HB := Lib.hid ((HB.out.alloc HB.out.size (.cells #[.string N, .int .u32 R, .int .i64 K] 33)).grown hg5 (by have := HB.out.size; simp; omega) (fun q hq => by have := (HO.out.lt q hq).1; have := hpg.out; omega))
        have HO5 := Lib.hid hown5
        clear HO HA hown5 hg5 hat5
        go_roundw
        case rel =>
          first
            | exact ⟨k + 1, A5, c5, _, r', S4, hkc, by go_num, rfl, HP2, HS4, HF, HO5, Pp, HB⟩
            | ((repeat apply Exists.intro); exact ⟨⟨k + 1, A5, c5, _, r', S4, hkc, by go_num, rfl, HP2, HS4, HF, HO5, Pp, HB⟩, rfl⟩)
        case measure => simp [intOf]; omega
    · have hkc : k = ct.toNat := by omega
      have hlen := parseB_len HPr.out
      have hsz : sizeB l ≤ 100000 := by
        have h1 := parseB_size HPr.out
        rw [size_list] at h1
        omega
      obtain ⟨z, hzz⟩ : ∃ z, z = bd.size + 24 := ⟨_, rfl⟩
      have hzi : (bd.size : Int) + 24 = (z : Int) := by omega
      have HZ := Lib.hid hzz
      have p2 := Pp.out.cell 2
      have p3 := Pp.out.cell 3
      have p4 := Pp.out.cell 4
      have p5 := Pp.out.cell 5
      simp at p2 p3 p4 p5
      obtain ⟨_, _, hv, hkcap, hcmax, _⟩ := own_form HO.out
      injection hv with hv1 hv2 hv3
      subst hv1 hv3
      have HCap := Lib.hid hkcap
      have HMax := Lib.hid hcmax
      have HRd := Lib.hid (Reads.of_own HO.out)
      clear hv2 hkcap hcmax hzz hsr hgl
      rcases hm : mayC z pg ty l with _ | _
      · have HE := Lib.hid (show readC kd ct pg lk ty bd = none by
          rw [readC, ← hkc, HPr.out]
          show (if (mayC ((bd.size + 24 : Nat) : Int) pg ty l && decide (kd = 2 ∧ ct = l.length ∧ lk = 0 ∧ bd = catBody (bd.size + 24) l)) = true then some l else none) = _
          rw [← HZ.out, hm]
          rfl)
        have HPage := rpage6_no z pg ty A k c l wr HRd.out (by omega) hm
        clear hm hkc hlen
        go_wp2_with fail
        refine HPage.mono ?_
        rintro e w2 ⟨rfl, hb⟩
        clear HPage p1 p2 p3 p4 p5
        go_wp2_with fail
        go_ret2
        exact (show OfPost none w _ _ from ⟨rfl, (HB.out.trans (hb.mono HB.out.size)).alloc (HB.out.trans (hb.mono HB.out.size)).size _⟩) |> fun h => by rw [HE.out]; exact h
      have HPage := rpage6_yes z pg ty A k c l wr HRd.out (by omega) hm
      have HKC := Lib.hid hkc
      have HLN := Lib.hid hlen
      have HMM := Lib.hid hm
      clear hkc hlen hm
      go_wp2_with fail
      refine HPage.mono ?_
      rintro e w2 ⟨rfl, hb⟩
      replace HB := Lib.hid (HB.out.trans (hb.mono HB.out.size))
      replace Pp := Lib.hid (Pp.out.below hb Pp.out.lt)
      replace HRd := Lib.hid ((HRd.out.below hb).more hb.size)
      clear HPage p1 p2 p3 p4 p5 hb
      obtain ⟨w3, hw3⟩ : ∃ x, x = w2.alloc (.cells #[.int .i64 2, .int .i64 k, .int .u32 pg, .int .u32 0, .int .u64 ty, .string (catBody z l)] 26) := ⟨_, rfl⟩
      have X := Lib.hid (show Blk w3 w2.heap.size 26 #[.int .i64 2, .int .i64 k, .int .u32 pg, .int .u32 0, .int .u64 ty, .string (catBody z l)] by rw [hw3]; exact Blk.new _ _ _)
      replace Pp := Lib.hid (show Blk w3 _ _ _ by rw [hw3]; exact Pp.out.alloc _)
      replace HRd := Lib.hid (show Reads w3 w3.heap.size 3 A k (bkc l) by rw [hw3]; exact (HRd.out.alloc (Nat.le_refl _) _).more (by simp))
      replace HB := Lib.hid (show Below w.heap.size w w3 by rw [hw3]; exact HB.out.alloc HB.out.size _)
      go_upto_region 14 with fail
      rw [← hw3]
      clear hw3 hzi
      generalize w2.heap.size = gX at *
      have x0 := X.out.cell 0
      have x1 := X.out.cell 1
      have x2 := X.out.cell 2
      have x3 := X.out.cell 3
      have x4 := X.out.cell 4
      have x5 := X.out.cell 5
      have p0 := Pp.out.cell 0
      have p1 := Pp.out.cell 1
      have p2 := Pp.out.cell 2
      have p3 := Pp.out.cell 3
      have p4 := Pp.out.cell 4
      have p5 := Pp.out.cell 5
      simp at x0 x1 x2 x3 x4 x5 p0 p1 p2 p3 p4 p5
      by_cases hq : (2 : Int) = kd ∧ (k : Int) = ct ∧ 0 = lk ∧ catBody z l = bd
      · have HSY : ∀ w : World, Calls Try.prog 48 #[.agg #[.int .i64 2, .int .i64 k, .int .u32 pg, .int .u32 0, .int .u64 ty, .string (catBody z l)], .agg #[.int .i64 kd, .int .i64 ct, .int .u32 pg, .int .u32 lk, .int .u64 ty, .string bd]] w fun e w' => e = .returned (.bool true) ∧ Below w.heap.size w w' := fun w => by
          obtain ⟨e1, e2, e3, e4⟩ := hq
          rw [← e1, ← e2, ← e3, e4]
          exact rsame6_yes 2 k pg 0 ty bd w
        have HE := Lib.hid (show readC kd ct pg lk ty bd = some l by
          rw [readC, ← HKC.out, HPr.out]
          show (if (mayC ((bd.size + 24 : Nat) : Int) pg ty l && decide (kd = 2 ∧ ct = l.length ∧ lk = 0 ∧ bd = catBody (bd.size + 24) l)) = true then some l else none) = _
          rw [← HZ.out, HMM.out, Bool.true_and]
          rw [if_pos (decide_eq_true ⟨hq.1.symm, by rw [HLN.out]; exact hq.2.1.symm, hq.2.2.1.symm, hq.2.2.2.symm⟩)])
        have HSm := fun w => HSY w
        clear hq HSY
        go_wp2_with fail
        refine (HSm _).mono ?_
        rintro e w4 ⟨rfl, hb⟩
        clear HSm
        go_wp2_with fail
        go_ret2
        exact (show OfPost (some l) w _ _ from ⟨A, k, c, rfl, (HRd.out.below hb).more hb.size, HCap.out, HMax.out, HB.out.trans (hb.mono HB.out.size)⟩) |> fun h => by rw [HE.out]; exact h
      · have HE := Lib.hid (show readC kd ct pg lk ty bd = none by
          rw [readC, ← HKC.out, HPr.out]
          show (if (mayC ((bd.size + 24 : Nat) : Int) pg ty l && decide (kd = 2 ∧ ct = l.length ∧ lk = 0 ∧ bd = catBody (bd.size + 24) l)) = true then some l else none) = _
          rw [← HZ.out, HMM.out, Bool.true_and]
          rw [if_neg (by rw [decide_eq_true_eq, HLN.out]; rintro ⟨e1, e2, e3, e4⟩; exact hq ⟨e1.symm, e2.symm, e3.symm, e4.symm⟩)])
        have HSm := fun w => rsame6_no 2 k pg 0 ty (catBody z l) kd ct pg lk ty bd w (by rintro ⟨e1, e2, _, e3, _, e4⟩; exact hq ⟨e1, e2, by omega, e4⟩)
        clear hq
        go_wp2_with fail
        refine (HSm _).mono ?_
        rintro e w4 ⟨rfl, hb⟩
        clear HSm
        go_wp2_with fail
        go_ret2
        exact (show OfPost none w _ _ from ⟨rfl, HB.out.trans (hb.mono HB.out.size)⟩) |> fun h => by rw [HE.out]; exact h
end Go.Proofs.Ytgljmcameeeaiaa
