/-
  Contract of the reference's May of layer 6: may buckets be, in pages of a size.
-/
import Derived.Test.YtgljmcameeeaiaaRef6Find
import Derived.Test.YtgljmcameeeaiaaRef4May
import Derived.Deep.CutRange
import Derived.Deep.QuietTactic
import Derived.BigQuiet
namespace Go.Proofs.Ytgljmcameeeaiaa
open Go.RowKit
open Go.Lib hiding intOf
set_option linter.unusedVariables false
set_option linter.unusedSimpArgs false
attribute [local go_sem ↓] Go.wp_at_zero Go.wp_at_succ

def lostN : ByteArray := ⟨#[108, 111, 115, 116, 43, 102, 111, 117, 110, 100]⟩
theorem lost_list : lostN.toList = [108, 111, 115, 116, 43, 102, 111, 117, 110, 100] := by simp [lostN]
def nameB (s : ByteArray) : Bool := decide (1 ≤ s.size ∧ s.size ≤ 16)
def emptyB (b : Bk) : Bool := decide (b.rt = 0 ∧ b.ks = 0)
def fullB (b : Bk) : Bool := decide ((2 ≤ b.rt ∧ b.rt ≤ 2147483647) ∧ 1 ≤ b.ks ∧ b.ks ≤ 2147483647)
/-- A bucket is valid. -/
def okBk (b : Bk) : Bool := nameB b.nm && (emptyB b || fullB b)
/-- The bucket with index i is valid, and its name is above the one before it. -/
def okAt (l : List Bk) (i : Nat) : Bool :=
  match l[i]? with
  | none => false
  | some b => okBk b && (decide (i = 0) || match l[i - 1]? with | some a => Op.bytesLess a.nm.toList b.nm.toList | none => true)
/-- The size of buckets without that of lost+found. -/
def sumB : List Bk → Nat
  | [] => 0
  | b :: l => (if b.nm.toList == lostN.toList then 0 else 9 + b.nm.size) + sumB l
theorem sumB_snoc (l : List Bk) (b : Bk) : sumB (l ++ [b]) = sumB l + (if b.nm.toList == lostN.toList then 0 else 9 + b.nm.size) := by
  induction l with
  | nil => simp [sumB]
  | cons c l ih => simp only [List.cons_append, sumB, ih]; omega
theorem sumB_take_succ {l : List Bk} {k : Nat} {x : Bk} (h : l[k]? = some x) : sumB (l.take (k + 1)) = sumB (l.take k) + (if x.nm.toList == lostN.toList then 0 else 9 + x.nm.size) := by
  obtain ⟨hk, rfl⟩ := List.getElem?_eq_some_iff.1 h
  rw [List.take_succ_eq_append_getElem hk, sumB_snoc]
theorem sumB_le (l : List Bk) : sumB l ≤ sizeB l := by
  induction l with
  | nil => simp [sumB, sizeB]
  | cons c l ih => simp only [sumB, sizeB]; split <;> omega
def allOk (l : List Bk) : Bool := (List.range l.length).all (okAt l)
/-- Buckets are valid for a page size. -/
def mayL (size : Int) (l : List Bk) : Bool := allOk l && (goodSize size && decide ((sumB l : Int) ≤ size - 43))
theorem allOk_no {l : List Bk} {k : Nat} (hk : k < l.length) (h : okAt l k = false) : allOk l = false := by
  rw [Bool.eq_false_iff]
  intro ha
  rw [allOk, List.all_eq_true] at ha
  rw [ha k (List.mem_range.2 hk)] at h
  cases h
theorem allOk_yes {l : List Bk} (h : ∀ j, j < l.length → okAt l j = true) : allOk l = true := by
  rw [allOk, List.all_eq_true]
  exact fun j hj => h j (List.mem_range.1 hj)
theorem okAt_of {l : List Bk} {k : Nat} {x : Bk} (hx : l[k]? = some x) : okAt l k = (okBk x && (decide (k = 0) || match l[k - 1]? with | some a => Op.bytesLess a.nm.toList x.nm.toList | none => true)) := by
  rw [okAt, hx]
theorem okAt_name {l : List Bk} {k : Nat} {x : Bk} (hx : l[k]? = some x) (h : okAt l k = true) : x.nm.size ≤ 16 := by
  rw [okAt_of hx] at h
  simp only [okBk, nameB, Bool.and_eq_true, decide_eq_true_eq] at h
  exact h.1.1.2
theorem sumB_ok {l : List Bk} : ∀ {k : Nat}, (∀ j, j < k → okAt l j = true) → k ≤ l.length → sumB (l.take k) ≤ 25 * k
  | 0, _, _ => by simp [sumB]
  | k + 1, h, hk => by
    have hx : l[k]? = some l[k] := List.getElem?_eq_getElem (by omega)
    have ih := sumB_ok (k := k) (fun j hj => h j (by omega)) (by omega)
    have hn := okAt_name hx (h k (by omega))
    rw [sumB_take_succ hx]
    split <;> omega
def numB (n : Nat) : Bool := decide (2 ≤ n ∧ n ≤ 2147483647)
theorem rnumB_any (n : Nat) (w : World) : Calls Try.prog 42 #[.int .u32 n] w fun e w' => e = .returned (.bool (numB n)) ∧ w' = w := by
  by_cases h1 : 2 ≤ n
  · have h1' : (2 : Int) ≤ n := by omega
    by_cases h2 : n ≤ 2147483647
    · have h2' : (n : Int) ≤ 2147483647 := by omega
      have HE := Lib.hid (show numB n = true by simp [numB, h1, h2])
      go_enter Try.func42, Try.ntmps42
      go_wp2
      go_ret
      exact ⟨by rw [HE.out]; rfl, rfl⟩
    · have h2' : ¬ (n : Int) ≤ 2147483647 := by omega
      have HE := Lib.hid (show numB n = false by simp [numB, h1, h2])
      go_enter Try.func42, Try.ntmps42
      go_wp2
      go_ret
      exact ⟨by rw [HE.out]; rfl, rfl⟩
  · have h1' : ¬ (2 : Int) ≤ n := by omega
    have HE := Lib.hid (show numB n = false by simp [numB, h1])
    go_enter Try.func42, Try.ntmps42
    go_wp2
    go_ret
    exact ⟨by rw [HE.out]; rfl, rfl⟩
theorem rnameB_any (s : ByteArray) (w : World) : Calls Try.prog 25 #[.string s] w fun e w' => e = .returned (.bool (nameB s)) ∧ w' = w := rname_any s w
set_option maxRecDepth 100000 in
set_option maxHeartbeats 6400000 in
theorem rmay6_any (size : Int) (A : Option Addr) (n c : Nat) (l : List Bk) (w : World) (hr : Reads w w.heap.size 3 A n (bkc l)) (hn : n ≤ 4398046511104) :
    Calls Try.prog 41 #[.int .i64 size, .slice A n c] w fun e w' => e = .returned (.bool (mayL size l)) ∧ Below w.heap.size w w' := by
  have HL := Lib.hid (bk_len hr)
  have HR := Lib.hid hr
  clear hr
  go_enter Try.func41, Try.ntmps41
  go_wp2_with fail
  go_loopw [5, 6] (fun s i wr => ∃ k : Nat, k ≤ n ∧ i = .int .i64 k ∧ s = .int .i64 (sumB (l.take k)) ∧ Hid (∀ j, j < k → okAt l j = true) ∧ Hid (Below w.heap.size w wr)) (fun _ i _ => n - (intOf i).toNat)
  case atStart => exact ⟨0, Nat.zero_le _, rfl, by simp [sumB], Lib.hid fun j hj => absurd hj (by omega), Lib.hid (Below.refl _ _)⟩
  case round =>
    obtain ⟨k, hk, rfl, rfl, HF, HB⟩ := hrel
    by_cases hlt : k < n
    · obtain ⟨ad, x, rfl, _, hp, hx, hc⟩ := bk_at HR.out hlt
      have hcb := hc.below HB.out hp
      have hk0 : (0 : Int) ≤ k := by omega
      have hk1 : (k : Int) < n := by omega
      have HX := Lib.hid hx
      have HP := Lib.hid hp
      obtain ⟨c0, c1, c2⟩ := hcb
      obtain ⟨w1, hw1⟩ : ∃ x1, x1 = wr.alloc (.cells #[.string x.nm, .int .u32 x.rt, .int .i64 x.ks] 33) := ⟨_, rfl⟩
      have M := Lib.hid (show Blk w1 wr.heap.size 33 #[.string x.nm, .int .u32 x.rt, .int .i64 x.ks] by rw [hw1]; exact Blk.new _ _ _)
      have HB1 := Lib.hid (show Below w.heap.size w w1 by rw [hw1]; exact HB.out.alloc HB.out.size _)
      clear hx hc hp
      go_upto_region 6 with fail
      rw [← hw1]
      clear hw1 c0 c1 c2
      generalize wr.heap.size = gM at *
      have m0 := M.out.cell 0
      have m1 := M.out.cell 1
      have m2 := M.out.cell 2
      simp at m0 m1 m2
      go_cut [8] from 16 to 74 (fun e wx => e = .bool (emptyB x) ∧ wx = w1)
      case first =>
        by_cases h1 : x.rt = 0
        · have h1' : ((x.rt : Int) == 0) = true := by simp [h1]
          by_cases h2 : x.ks = 0
          · have h2' : (x.ks == 0) = true := by simp [h2]
            have HE := Lib.hid (show emptyB x = true by simp [emptyB, h1, h2])
            clear h1 h2
            go_wp2_with fail
            go_meet
            exact ⟨by rw [HE.out], rfl⟩
          · have h2' : (x.ks == 0) = false := by simp [h2]
            have HE := Lib.hid (show emptyB x = false by simp [emptyB, h1, h2])
            clear h1 h2
            go_wp2_with fail
            go_meet
            exact ⟨by rw [HE.out], rfl⟩
        · have h1' : ((x.rt : Int) == 0) = false := by simp; omega
          have HE := Lib.hid (show emptyB x = false by simp [emptyB, h1])
          clear h1
          go_wp2_with fail
          go_meet
          exact ⟨by rw [HE.out], rfl⟩
      case rest =>
      obtain ⟨rfl, rfl⟩ := hcut
      go_upto_region 7 with fail
      go_cut [9] from 16 to 74 (fun f wx => f = .bool (fullB x) ∧ wx = wc)
      case first =>
        rcases hN : numB x.rt with _ | _
        · have HE := Lib.hid (show fullB x = false by simp only [numB, decide_eq_false_iff_not] at hN; simp only [fullB, decide_eq_false_iff_not]; exact fun h => hN h.1)
          have HN := fun w => rnumB_any x.rt w
          rw [hN] at HN
          clear hN
          go_wp2_with (go_at_call 42; refine (HN _).mono ?_; rintro e w' ⟨rfl, rfl⟩)
          go_meet
          exact ⟨by rw [HE.out], rfl⟩
        · have HN := fun w => rnumB_any x.rt w
          rw [hN] at HN
          simp only [numB, decide_eq_true_eq] at hN
          by_cases h1 : 1 ≤ x.ks
          · by_cases h2 : x.ks ≤ 2147483647
            · have HE := Lib.hid (show fullB x = true by simp [fullB, hN, h1, h2])
              clear hN
              go_wp2_with (go_at_call 42; refine (HN _).mono ?_; rintro e w' ⟨rfl, rfl⟩)
              go_meet
              exact ⟨by rw [HE.out], rfl⟩
            · have HE := Lib.hid (show fullB x = false by simp [fullB, hN, h1, h2])
              clear hN
              go_wp2_with (go_at_call 42; refine (HN _).mono ?_; rintro e w' ⟨rfl, rfl⟩)
              go_meet
              exact ⟨by rw [HE.out, decide_eq_false (by omega)], rfl⟩
          · have HE := Lib.hid (show fullB x = false by simp [fullB, hN, h1])
            clear hN
            go_wp2_with (go_at_call 42; refine (HN _).mono ?_; rintro e w' ⟨rfl, rfl⟩)
            go_meet
            exact ⟨by rw [HE.out], rfl⟩
      case rest =>
      obtain ⟨rfl, rfl⟩ := hcut
      go_upto_region 8 with fail
      have hkl : k < l.length := by rw [HL.out]; exact hlt
      have HN := fun w => rnameB_any x.nm w
      rcases hnm : nameB x.nm with _ | _
      · have HE := Lib.hid (show mayL size l = false by rw [mayL, allOk_no hkl (by rw [okAt_of HX.out, okBk, hnm]; rfl)]; rfl)
        rw [hnm] at HN
        clear hkl hnm
        go_quiet ((go_at_call 25; exact Calls.quiet_of_same (HN _)))
        go_wp2_with fail
        go_ret
        exact ⟨by rw [HE.out]; rfl, below_drewN HB1.out _⟩
      rw [hnm] at HN
      rcases hef : (emptyB x || fullB x) with _ | _
      · have HE := Lib.hid (show mayL size l = false by rw [mayL, allOk_no hkl (by rw [okAt_of HX.out, okBk, hnm, hef]; rfl)]; rfl)
        rw [Bool.or_eq_false_iff] at hef
        obtain ⟨he, hf⟩ := hef
        clear hkl hnm
        go_quiet ((go_at_call 25; exact Calls.quiet_of_same (HN _)))
        go_wp2_with fail
        go_ret
        exact ⟨by rw [HE.out]; rfl, below_drewN HB1.out _⟩
      have hok : okBk x = true := by rw [okBk, hnm, hef]; rfl
      have hg2 : emptyB x = true ∨ (emptyB x = false ∧ fullB x = true) := by
        rcases h1 : emptyB x with _ | _
        · rw [h1] at hef; exact .inr ⟨rfl, hef⟩
        · exact .inl rfl
      clear hef hnm
      by_cases hk00 : k = 0
      · have HE := Lib.hid (show okAt l k = true by rw [okAt_of HX.out, hok, hk00]; rfl)
        have hk3 : decide ((k : Int) > 0) = false := by simp; omega
        have hk4 : decide (0 < k) = false := by simp; omega
        clear hk00 hok hkl
        rcases hg2 with he | ⟨he, hf⟩
        all_goals
          skip
          go_quiet ((go_at_call 25; exact Calls.quiet_of_same (HN _)))
          replace M := Lib.hid (M.out.drewN nq)
          replace HB1 := Lib.hid (below_drewN HB1.out nq)
          generalize wc.drewN nq = wd at *
          clear m0 m1 m2
          have m0 := M.out.cell 0
          have m1 := M.out.cell 1
          have m2 := M.out.cell 2
          simp at m0 m1 m2
          have HF' := Lib.hid (fun j (hj : j < k + 1) => show okAt l j = true from by
            by_cases hjk : j < k
            · exact HF.out j hjk
            · obtain rfl : j = k := by omega
              exact HE.out)
          rcases hlo : (x.nm.toList == lostN.toList) with _ | _
          · have HQ := Lib.hid (show sumB (l.take (k + 1)) = sumB (l.take k) + (9 + x.nm.size) by rw [sumB_take_succ HX.out, hlo]; rfl)
            have hlo' : (x.nm.toList == [108, 111, 115, 116, 43, 102, 111, 117, 110, 100]) = false := by rw [← lost_list]; exact hlo
            have hb1 : sumB (l.take (k + 1)) ≤ 9007199254740992 := Nat.le_trans (sumB_ok HF'.out (by rw [HL.out]; exact hlt)) (by omega)
            have hb2 : sumB (l.take k) + (9 + x.nm.size) ≤ 9007199254740992 := by rw [← HQ.out]; exact hb1
            have hxs : x.nm.size ≤ 9007199254740992 := by omega
            have HO := fun w => rone_any x w hxs
            clear hlo hb1
            go_wp2_with fail
            refine (HO _).mono ?_
            rintro e w5 ⟨rfl, hb⟩
            replace HB1 := Lib.hid (HB1.out.trans (hb.mono HB1.out.size))
            clear hb HO m0 m1 m2 hlo'
            have hadd : ((sumB (l.take k) : Nat) : Int) + (9 + (x.nm.size : Int)) = ((sumB (l.take (k + 1)) : Nat) : Int) := by rw [HQ.out]; omega
            go_wp2
            go_roundw
            case rel =>
              first
                | exact ⟨k + 1, by omega, by go_num, by first | rfl | (rw [← hadd]; go_num), HF', HB1⟩
                | ((repeat apply Exists.intro); exact ⟨⟨k + 1, by omega, by go_num, by first | rfl | (rw [← hadd]; go_num), HF', HB1⟩, rfl⟩)
            case measure => simp [intOf]; omega
          · have HQ := Lib.hid (show sumB (l.take (k + 1)) = sumB (l.take k) by rw [sumB_take_succ HX.out, hlo]; rfl)
            have hlo' : (x.nm.toList == [108, 111, 115, 116, 43, 102, 111, 117, 110, 100]) = true := by rw [← lost_list]; exact hlo
            clear hlo
            go_wp2_with fail
            go_roundw
            case rel =>
              first
                | exact ⟨k + 1, by omega, by go_num, by rw [HQ.out], HF', HB1⟩
                | ((repeat apply Exists.intro); exact ⟨⟨k + 1, by omega, by go_num, by rw [HQ.out], HF', HB1⟩, rfl⟩)
            case measure => simp [intOf]; omega
      obtain ⟨j, hkj⟩ : ∃ j, k = j + 1 := ⟨k - 1, by omega⟩
      obtain ⟨ad', y, had, _, hpy, hy, hcy⟩ := bk_at HR.out (show j < n by omega)
      injection had with had
      subst had
      obtain ⟨y0, _, _⟩ := hcy.below HB1.out hpy
      have hj1 : IntKind.i64.wrap ((k : Int) - 1) = (j : Int) := by rw [IntKind.wrap_i64]; omega
      have hj2 : (k : Int) - 1 = (j : Int) := by omega
      have hj3 : (0 : Int) ≤ j := by omega
      have hj4 : (j : Int) < n := by omega
      have hk3 : decide ((k : Int) > 0) = true := by simp; omega
      have hk4 : decide (0 < k) = true := by simp; omega
      have hat : okAt l k = Op.bytesLess y.nm.toList x.nm.toList := by rw [okAt_of HX.out, hok, hkj]; simp [hy]
      rcases hless : Op.bytesLess y.nm.toList x.nm.toList with _ | _
      · have HE := Lib.hid (show mayL size l = false by rw [mayL, allOk_no hkl (by rw [hat, hless])]; rfl)
        clear hat hkl hok hy hkj hk00 hcy
        rcases hg2 with he | ⟨he, hf⟩
        all_goals
          skip
          go_quiet ((go_at_call 25; exact Calls.quiet_of_same (HN _)))
          go_wp2_with fail
          go_ret
          exact ⟨by rw [HE.out]; rfl, below_drewN HB1.out _⟩
      · have HE := Lib.hid (show okAt l k = true by rw [hat, hless])
        clear hat hkl hok hy hkj hk00 hcy
        rcases hg2 with he | ⟨he, hf⟩
        all_goals
          skip
          go_quiet ((go_at_call 25; exact Calls.quiet_of_same (HN _)))
          replace M := Lib.hid (M.out.drewN nq)
          replace HB1 := Lib.hid (below_drewN HB1.out nq)
          generalize wc.drewN nq = wd at *
          clear m0 m1 m2 y0 hj1 hj2
          have m0 := M.out.cell 0
          have m1 := M.out.cell 1
          have m2 := M.out.cell 2
          simp at m0 m1 m2
          have HF' := Lib.hid (fun j (hj : j < k + 1) => show okAt l j = true from by
            by_cases hjk : j < k
            · exact HF.out j hjk
            · obtain rfl : j = k := by omega
              exact HE.out)
          rcases hlo : (x.nm.toList == lostN.toList) with _ | _
          · have HQ := Lib.hid (show sumB (l.take (k + 1)) = sumB (l.take k) + (9 + x.nm.size) by rw [sumB_take_succ HX.out, hlo]; rfl)
            have hlo' : (x.nm.toList == [108, 111, 115, 116, 43, 102, 111, 117, 110, 100]) = false := by rw [← lost_list]; exact hlo
            have hb1 : sumB (l.take (k + 1)) ≤ 9007199254740992 := Nat.le_trans (sumB_ok HF'.out (by rw [HL.out]; exact hlt)) (by omega)
            have hb2 : sumB (l.take k) + (9 + x.nm.size) ≤ 9007199254740992 := by rw [← HQ.out]; exact hb1
            have hxs : x.nm.size ≤ 9007199254740992 := by omega
            have HO := fun w => rone_any x w hxs
            clear hlo hb1
            go_wp2_with fail
            refine (HO _).mono ?_
            rintro e w5 ⟨rfl, hb⟩
            replace HB1 := Lib.hid (HB1.out.trans (hb.mono HB1.out.size))
            clear hb HO m0 m1 m2 hlo'
            have hadd : ((sumB (l.take k) : Nat) : Int) + (9 + (x.nm.size : Int)) = ((sumB (l.take (k + 1)) : Nat) : Int) := by rw [HQ.out]; omega
            go_wp2
            go_roundw
            case rel =>
              first
                | exact ⟨k + 1, by omega, by go_num, by first | rfl | (rw [← hadd]; go_num), HF', HB1⟩
                | ((repeat apply Exists.intro); exact ⟨⟨k + 1, by omega, by go_num, by first | rfl | (rw [← hadd]; go_num), HF', HB1⟩, rfl⟩)
            case measure => simp [intOf]; omega
          · have HQ := Lib.hid (show sumB (l.take (k + 1)) = sumB (l.take k) by rw [sumB_take_succ HX.out, hlo]; rfl)
            have hlo' : (x.nm.toList == [108, 111, 115, 116, 43, 102, 111, 117, 110, 100]) = true := by rw [← lost_list]; exact hlo
            clear hlo
            go_wp2_with fail
            go_roundw
            case rel =>
              first
                | exact ⟨k + 1, by omega, by go_num, by rw [HQ.out], HF', HB1⟩
                | ((repeat apply Exists.intro); exact ⟨⟨k + 1, by omega, by go_num, by rw [HQ.out], HF', HB1⟩, rfl⟩)
            case measure => simp [intOf]; omega
    · obtain rfl : k = n := by omega
      have ht : l.take k = l := List.take_of_length_le (by rw [HL.out]; exact Nat.le_refl _)
      rw [ht]
      have ha : allOk l = true := allOk_yes (by rw [HL.out]; exact HF.out)
      have hb : sumB l ≤ 9007199254740992 := by
        have := sumB_ok HF.out (Nat.le_of_eq HL.out.symm)
        rw [ht] at this
        omega
      rcases hg : goodSize size with _ | _
      · have HE := Lib.hid (show mayL size l = false by rw [mayL, ha, hg]; rfl)
        have HG := fun w => rgood_is size false w hg
        clear ha hg ht hlt
        go_wp2_with (go_at_call 57; refine (HG _).mono ?_; rintro e w' ⟨rfl, rfl⟩)
        go_ret
        exact ⟨by rw [HE.out]; rfl, HB.out⟩
      · have HG := fun w => rgood_is size true w hg
        have HM := fun w => rroom_is size w hg
        have hgp := good_nat hg
        obtain ⟨z, rfl, hz1, hz2, _⟩ := hgp
        by_cases hle : (sumB l : Int) ≤ (z : Int) - 43
        · have HE := Lib.hid (show mayL (z : Int) l = true by rw [mayL, ha, hg]; simp [hle])
          clear ha hg ht hlt
          have hw1 : (z : Int) - 24 - 19 = (z : Int) - 43 := by omega
          go_wp2_with (first | (go_at_call 57; refine (HG _).mono ?_; rintro e w' ⟨rfl, rfl⟩) | (go_at_call 58; refine (HM _).mono ?_; rintro e w' ⟨rfl, rfl⟩))
          go_ret
          exact ⟨by rw [HE.out]; rfl, HB.out⟩
        · have HE := Lib.hid (show mayL (z : Int) l = false by rw [mayL, ha, hg]; simp [hle])
          have hd : decide ((sumB l : Int) ≤ (z : Int) - 43) = false := decide_eq_false hle
          have HD := Lib.hid hd
          clear ha hg ht hlt
          have hw1 : (z : Int) - 24 - 19 = (z : Int) - 43 := by omega
          go_wp2_with (first | (go_at_call 57; refine (HG _).mono ?_; rintro e w' ⟨rfl, rfl⟩) | (go_at_call 58; refine (HM _).mono ?_; rintro e w' ⟨rfl, rfl⟩))
          go_ret
          exact ⟨by rw [HE.out]; rfl, HB.out⟩
end Go.Proofs.Ytgljmcameeeaiaa
