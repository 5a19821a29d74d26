/-
  The walk of the statement OctetScript (a reader returns what the document says, whatever is read): from every start, at every argument, it returns true and changes no block that was there before.
-/
import Derived.Test.YtiilhiineakccaaOctLaw
import Derived.BigQuiet
namespace Go.Proofs.Ytiilhiineakccaa
open Go.RowKit Go.Lib

/-! What Number and Bytes return, and what is left, in one form for all cases. -/
def numV (s : ByteArray) (n : Int) : Int := if 1 ≤ n ∧ n ≤ 8 ∧ n ≤ s.size then (leNat (s.data.toList.take n.toNat) : Nat) else 0
def numE (s : ByteArray) (n : Int) : Int := if 1 ≤ n ∧ n ≤ 8 then (if n ≤ s.size then 0 else 7) else 2
def numS (s : ByteArray) (n : Int) : ByteArray := if 1 ≤ n ∧ n ≤ 8 ∧ n ≤ s.size then s.extract n.toNat s.size else s
def bytV (s : ByteArray) (n : Int) : ByteArray := if 0 ≤ n ∧ n ≤ s.size then s.extract 0 n.toNat else ⟨#[]⟩
def bytE (s : ByteArray) (n : Int) : Int := if n < 0 then 2 else (if n ≤ s.size then 0 else 7)
def bytS (s : ByteArray) (n : Int) : ByteArray := if 0 ≤ n ∧ n ≤ s.size then s.extract n.toNat s.size else s

theorem number_all {w : World} {g : Nat} {s : ByteArray} (h : IsRd w g s) (n : Int) :
    Calls Try.prog 10 #[.pointer (some ⟨g, 0, none⟩), .int .i64 n] w fun e w' => e = .returned (.tuple #[.int .u64 (numV s n), .int .i64 (numE s n)]) ∧ IsRd w' g (numS s n) ∧ w.grownBy w' (some g) := by
  by_cases h1 : 1 ≤ n ∧ n ≤ 8
  · by_cases h2 : n ≤ s.size
    · obtain ⟨m, rfl⟩ := Int.eq_ofNat_of_zero_le (show 0 ≤ n by omega)
      have e1 : numV s m = (leNat (s.data.toList.take m) : Nat) := by unfold numV; rw [if_pos ⟨h1.1, h1.2, h2⟩]; rfl
      have e2 : numE s m = 0 := by unfold numE; rw [if_pos h1, if_pos h2]
      have e3 : numS s m = s.extract m s.size := by unfold numS; rw [if_pos ⟨h1.1, h1.2, h2⟩]; rfl
      rw [e1, e2, e3]
      exact number_ok' h m (by omega) (by omega) (by omega)
    · have e1 : numV s n = 0 := by unfold numV; rw [if_neg (by omega)]
      have e2 : numE s n = 7 := by unfold numE; rw [if_pos h1, if_neg h2]
      have e3 : numS s n = s := by unfold numS; rw [if_neg (by omega)]
      rw [e1, e2, e3]
      exact (number_more h n h1.1 h1.2 (by omega)).mono fun _ _ ⟨he, hw⟩ => ⟨he, by subst hw; exact ⟨h, World.grownBy.refl _ _⟩⟩
  · have e1 : numV s n = 0 := by unfold numV; rw [if_neg (by omega)]
    have e2 : numE s n = 2 := by unfold numE; rw [if_neg h1]
    have e3 : numS s n = s := by unfold numS; rw [if_neg (by omega)]
    rw [e1, e2, e3]
    exact (number_arg h n h1).mono fun _ _ ⟨he, hw⟩ => ⟨he, by subst hw; exact ⟨h, World.grownBy.refl _ _⟩⟩
theorem bytes_all {w : World} {g : Nat} {s : ByteArray} (h : IsRd w g s) (n : Int) :
    Calls Try.prog 11 #[.pointer (some ⟨g, 0, none⟩), .int .i64 n] w fun e w' => e = .returned (.tuple #[.string (bytV s n), .int .i64 (bytE s n)]) ∧ IsRd w' g (bytS s n) ∧ w.grownBy w' (some g) := by
  by_cases h1 : n < 0
  · have e1 : bytV s n = ⟨#[]⟩ := by unfold bytV; rw [if_neg (by omega)]
    have e2 : bytE s n = 2 := by unfold bytE; rw [if_pos h1]
    have e3 : bytS s n = s := by unfold bytS; rw [if_neg (by omega)]
    rw [e1, e2, e3]
    exact (bytes_arg h n h1).mono fun _ _ ⟨he, hw⟩ => ⟨he, by subst hw; exact ⟨h, World.grownBy.refl _ _⟩⟩
  · by_cases h2 : n ≤ s.size
    · obtain ⟨m, rfl⟩ := Int.eq_ofNat_of_zero_le (show 0 ≤ n by omega)
      have e1 : bytV s m = s.extract 0 m := by unfold bytV; rw [if_pos (by omega)]; rfl
      have e2 : bytE s m = 0 := by unfold bytE; rw [if_neg h1, if_pos h2]
      have e3 : bytS s m = s.extract m s.size := by unfold bytS; rw [if_pos (by omega)]; rfl
      rw [e1, e2, e3]
      exact bytes_ok' h m (by omega)
    · have e1 : bytV s n = ⟨#[]⟩ := by unfold bytV; rw [if_neg (by omega)]
      have e2 : bytE s n = 7 := by unfold bytE; rw [if_neg h1, if_neg h2]
      have e3 : bytS s n = s := by unfold bytS; rw [if_neg (by omega)]
      rw [e1, e2, e3]
      exact (bytes_more h n (by omega)).mono fun _ _ ⟨he, hw⟩ => ⟨he, by subst hw; exact ⟨h, World.grownBy.refl _ _⟩⟩
theorem rnumber_all {w : World} {g : Nat} {s : ByteArray} (h : IsRf w g s) (n : Int) :
    Calls Try.prog 19 #[.pointer (some ⟨g, 0, none⟩), .int .i64 n] w fun e w' => e = .returned (.tuple #[.int .u64 (numV s n), .int .i64 (numE s n)]) ∧ IsRf w' g (numS s n) ∧ w.grownBy w' (some g) := by
  by_cases h1 : 1 ≤ n ∧ n ≤ 8
  · by_cases h2 : n ≤ s.size
    · obtain ⟨m, rfl⟩ := Int.eq_ofNat_of_zero_le (show 0 ≤ n by omega)
      have e1 : numV s m = (leNat (s.data.toList.take m) : Nat) := by unfold numV; rw [if_pos ⟨h1.1, h1.2, h2⟩]; rfl
      have e2 : numE s m = 0 := by unfold numE; rw [if_pos h1, if_pos h2]
      have e3 : numS s m = s.extract m s.size := by unfold numS; rw [if_pos ⟨h1.1, h1.2, h2⟩]; rfl
      rw [e1, e2, e3]
      exact rnumber_ok' h m (by omega) (by omega) (by omega)
    · have e1 : numV s n = 0 := by unfold numV; rw [if_neg (by omega)]
      have e2 : numE s n = 7 := by unfold numE; rw [if_pos h1, if_neg h2]
      have e3 : numS s n = s := by unfold numS; rw [if_neg (by omega)]
      rw [e1, e2, e3]
      exact (rnumber_more h n h1.1 h1.2 (by omega)).mono fun _ _ ⟨he, hw⟩ => ⟨he, by subst hw; exact ⟨h, World.grownBy.refl _ _⟩⟩
  · have e1 : numV s n = 0 := by unfold numV; rw [if_neg (by omega)]
    have e2 : numE s n = 2 := by unfold numE; rw [if_neg h1]
    have e3 : numS s n = s := by unfold numS; rw [if_neg (by omega)]
    rw [e1, e2, e3]
    exact (rnumber_arg n h1).mono fun _ _ ⟨he, hw⟩ => ⟨he, by subst hw; exact ⟨h, World.grownBy.refl _ _⟩⟩
theorem rbytes_all {w : World} {g : Nat} {s : ByteArray} (h : IsRf w g s) (n : Int) :
    Calls Try.prog 20 #[.pointer (some ⟨g, 0, none⟩), .int .i64 n] w fun e w' => e = .returned (.tuple #[.string (bytV s n), .int .i64 (bytE s n)]) ∧ IsRf w' g (bytS s n) ∧ w.grownBy w' (some g) := by
  by_cases h1 : n < 0
  · have e1 : bytV s n = ⟨#[]⟩ := by unfold bytV; rw [if_neg (by omega)]
    have e2 : bytE s n = 2 := by unfold bytE; rw [if_pos h1]
    have e3 : bytS s n = s := by unfold bytS; rw [if_neg (by omega)]
    rw [e1, e2, e3]
    exact (rbytes_arg n h1).mono fun _ _ ⟨he, hw⟩ => ⟨he, by subst hw; exact ⟨h, World.grownBy.refl _ _⟩⟩
  · by_cases h2 : n ≤ s.size
    · obtain ⟨m, rfl⟩ := Int.eq_ofNat_of_zero_le (show 0 ≤ n by omega)
      have e1 : bytV s m = s.extract 0 m := by unfold bytV; rw [if_pos (by omega)]; rfl
      have e2 : bytE s m = 0 := by unfold bytE; rw [if_neg h1, if_pos h2]
      have e3 : bytS s m = s.extract m s.size := by unfold bytS; rw [if_pos (by omega)]; rfl
      rw [e1, e2, e3]
      exact rbytes_ok' h m (by omega)
    · have e1 : bytV s n = ⟨#[]⟩ := by unfold bytV; rw [if_neg (by omega)]
      have e2 : bytE s n = 7 := by unfold bytE; rw [if_neg h1, if_neg h2]
      have e3 : bytS s n = s := by unfold bytS; rw [if_neg (by omega)]
      rw [e1, e2, e3]
      exact (rbytes_more h n (by omega)).mono fun _ _ ⟨he, hw⟩ => ⟨he, by subst hw; exact ⟨h, World.grownBy.refl _ _⟩⟩

theorem pairCells_at : ∀ (l : List (Int × Int)) (k : Nat) (x : Int × Int), l[k]? = some x → (pairCells l)[k * 2]? = some (.int .i64 x.1) ∧ (pairCells l)[k * 2 + 1]? = some (.int .i64 x.2)
  | [], k, x, h => by simp at h
  | y :: l, 0, x, h => by simp at h; subst h; exact ⟨rfl, rfl⟩
  | y :: l, k + 1, x, h => by
    have := pairCells_at l k x (by simpa using h)
    rw [show (k + 1) * 2 = k * 2 + 1 + 1 by omega]
    exact this
theorem field_add (a : Addr) (n i : Nat) : a.add (n + (i + 1)) = ⟨(a.add n).block, (a.add n).off + (i + 1), none⟩ := by
  unfold Addr.add
  by_cases h : n = 0 <;> simp [h, Nat.add_assoc]
theorem cell_fld {w w' : World} {B : Nat} {ad : Addr} {k i : Nat} {v : Option Value} (hc : w.cell? ⟨(ad.add k).block, (ad.add k).off + i, none⟩ = v) (hb : Below B w w') (hab : ad.block < B) : w'.cell? ⟨(ad.add k).block, (ad.add k).off + i, none⟩ = v :=
  (hb.cell (p := ⟨(ad.add k).block, (ad.add k).off + i, none⟩) (by show (ad.add k).block < B; rw [block_add]; exact hab)).trans hc
/-- An element of a slice of pairs, as the walk meets it. -/
theorem pair_at {w : World} {B n j : Nat} {A : Option Addr} {l : List (Int × Int)} (h : Reads w B 2 A n (pairCells l)) (hj : j < n) :
    ∃ ad x, A = some ad ∧ ad.block < B ∧ l[j]? = some x ∧ w.cell? (ad.add (j * 2)) = some (.int .i64 x.1) ∧ w.cell? ⟨(ad.add (j * 2)).block, (ad.add (j * 2)).off + 1, none⟩ = some (.int .i64 x.2) := by
  obtain ⟨ad, e, hb, hc⟩ := h.2 (by omega)
  have hl : l.length = n := by have := h.1; rw [pairCells_length] at this; omega
  have hx : l[j]? = some l[j] := List.getElem?_eq_getElem (by omega)
  obtain ⟨h1, h2⟩ := pairCells_at l j _ hx
  exact ⟨ad, _, e, hb, hx, hc _ _ h1, by rw [← field_add]; exact hc _ _ h2⟩

set_option maxRecDepth 100000 in
set_option maxHeartbeats 1600000 in
theorem script_walk (a0 : ByteArray) (a1 : Option Addr) (len1 cap1 : Nat) (l : List (Int × Int)) (w : World) (w0 : a0.size ≤ maxLen) (hr0 : Reads w w.heap.size 2 a1 len1 (pairCells l)) :
    Calls Try.prog 4 #[.string a0, .slice a1 len1 cap1] w fun e w' => e = .returned (.bool true) ∧ Below w.heap.size w w' := by
  have ZA := fun W => zero_any a0 W w0
  have ZR := fun W => rzero_any a0 W w0
  unfold maxLen at w0
  have R0 := Lib.hid hr0
  clear hr0
  by_cases h3 : a0.size ≤ 300 ∧ len1 ≤ 60
  · obtain ⟨h3, h4⟩ := h3
    have hd1 : decide ((300 : Int) < a0.size) = false := by simp; omega
    have hd2 : decide ((60 : Int) < len1) = false := by simp; omega
    have HZ := Lib.hid ZA
    have HZR := Lib.hid ZR
    clear ZA ZR
    go_enter Try.func4, Try.ntmps4
    go_wp2_with fail
    refine (lives_any w).mono ?_
    rintro e w1 ⟨rfl, hb1⟩
    go_wp2_with fail
    refine (new_any' a0 w1).mono ?_
    rintro e w2 ⟨rfl, r2, hb2, hl2⟩
    have hb2' : Below w.heap.size w w2 := hb1.trans (hb2.mono hb1.size)
    have hg : w.heap.size ≤ w1.heap.size := hb1.size
    clear hb2 hb1 hl2
    generalize w1.heap.size = g at *
    go_wp2_with fail
    refine (rnew_any' a0 w2).mono ?_
    rintro e w3 ⟨rfl, f3, hb3, hl3⟩
    have r3 : IsRd w3 g a0 := Blk.below r2 hb3 r2.lt
    have hb3' : Below w.heap.size w w3 := hb2'.trans (hb3.mono hb2'.size)
    have hf : w.heap.size ≤ w2.heap.size := hb2'.size
    have hgf : g ≠ w2.heap.size := Nat.ne_of_lt r2.lt
    clear hb3 hb2' hl3 r2
    generalize w2.heap.size = f at *
    go_wp2_with fail
    refine (HZ.out w3).mono ?_
    rintro e w' ⟨rfl, rfl⟩
    go_wp2_with fail
    refine (HZR.out w3).mono ?_
    rintro e w' ⟨rfl, rfl⟩
    go_wp2_with fail
    have HG := Lib.hid hgf
    clear hgf
    go_loopw [7] (fun i wr => ∃ (k : Nat) (s : ByteArray), k ≤ len1 ∧ i = .int .i64 k ∧ IsRd wr g s ∧ IsRf wr f s ∧ Below w.heap.size w wr) (fun i _ => len1 - (intOf i).toNat)
    case atStart => exact ⟨0, a0, Nat.zero_le _, rfl, r3, f3, hb3'⟩
    case round =>
      obtain ⟨k, s, hk, rfl, hrd, hrf, hbr⟩ := hrel
      by_cases hlt : k < len1
      · obtain ⟨ad, x, rfl, hab, hx, hc0, hc1⟩ := pair_at R0.out hlt
        have hk0 : (0 : Int) ≤ k := by omega
        have hk1 : (k : Int) < len1 := by omega
        have hcr0 := cell_in hc0 hbr hab
        have hcr1 := cell_fld hc1 hbr hab
        have HC1 := Lib.hid hc1
        clear hc0 hc1
        have h3c : x.1 % 3 = 0 ∨ x.1 % 3 = 1 ∨ x.1 % 3 = 2 := by omega
        go_wp2_with fail
        refine (pick_any x.1 3 _ (by omega) (by omega)).mono ?_
        rintro e w' ⟨rfl, rfl⟩
        generalize x.1 % 3 = q at *
        rcases h3c with rfl | rfl | rfl
        · go_wp2_with fail
          refine (number_all hrd x.2).mono ?_
          rintro e w4 ⟨rfl, hrd4, hg4⟩
          have hbr4 := hbr.trans (below_of_grown hg4 hg hbr.size)
          have hrf4 : IsRf w4 f s := Blk.grown hrf hg4 (fun e => HG.out (by injection e with e; exact e.symm))
          have hc4 := cell_fld HC1.out hbr4 hab
          clear hg4 hrf hrd hcr1 hcr0 hbr
          go_wp2_with fail
          refine (rnumber_all hrf4 x.2).mono ?_
          rintro e w5 ⟨rfl, hrf5, hg5⟩
          have hbr5 := hbr4.trans (below_of_grown hg5 hf hbr4.size)
          have hrd5 : IsRd w5 g (numS s x.2) := Blk.grown hrd4 hg5 (fun e => HG.out (by injection e))
          clear hg5 hrf4 hrd4 hbr4 hc4
          have hc5 := Blk.cell hrf5 0
          simp at hc5
          go_wp2_with fail
          go_quiet ((first | (go_at_call 12; exact Calls.quiet_of_same ((left_any (show IsRd _ g _ from Blk.drewN hrd5 _)).mono fun _ _ ⟨a, b⟩ => ⟨a, b.symm⟩)) | (go_at_call 21; exact Calls.quiet_of_same ((rleft_any (show IsRf _ f _ from Blk.drewN hrf5 _)).mono fun _ _ ⟨a, b⟩ => ⟨a, b.symm⟩)) | (go_at_call 13; exact Calls.quiet_of_same ((rest_any (show IsRd _ g _ from Blk.drewN hrd5 _)).mono fun _ _ ⟨a, b⟩ => ⟨a, b.symm⟩))))
          go_wp2
          go_roundw
          case rel => exact ⟨k + 1, numS s x.2, by omega, by go_num, Blk.drewN hrd5 _, Blk.drewN hrf5 _, below_drewN hbr5 _⟩
          case measure => simp [intOf]; omega
        · go_wp2_with fail
          refine (bytes_all hrd x.2).mono ?_
          rintro e w4 ⟨rfl, hrd4, hg4⟩
          have hbr4 := hbr.trans (below_of_grown hg4 hg hbr.size)
          have hrf4 : IsRf w4 f s := Blk.grown hrf hg4 (fun e => HG.out (by injection e with e; exact e.symm))
          have hc4 := cell_fld HC1.out hbr4 hab
          clear hg4 hrf hrd hcr1 hcr0 hbr
          go_wp2_with fail
          refine (rbytes_all hrf4 x.2).mono ?_
          rintro e w5 ⟨rfl, hrf5, hg5⟩
          have hbr5 := hbr4.trans (below_of_grown hg5 hf hbr4.size)
          have hrd5 : IsRd w5 g (bytS s x.2) := Blk.grown hrd4 hg5 (fun e => HG.out (by injection e))
          clear hg5 hrf4 hrd4 hbr4 hc4
          have hc5 := Blk.cell hrf5 0
          simp at hc5
          go_wp2_with fail
          go_quiet ((first | (go_at_call 12; exact Calls.quiet_of_same ((left_any (show IsRd _ g _ from Blk.drewN hrd5 _)).mono fun _ _ ⟨a, b⟩ => ⟨a, b.symm⟩)) | (go_at_call 21; exact Calls.quiet_of_same ((rleft_any (show IsRf _ f _ from Blk.drewN hrf5 _)).mono fun _ _ ⟨a, b⟩ => ⟨a, b.symm⟩)) | (go_at_call 13; exact Calls.quiet_of_same ((rest_any (show IsRd _ g _ from Blk.drewN hrd5 _)).mono fun _ _ ⟨a, b⟩ => ⟨a, b.symm⟩))))
          go_wp2
          go_roundw
          case rel => exact ⟨k + 1, bytS s x.2, by omega, by go_num, Blk.drewN hrd5 _, Blk.drewN hrf5 _, below_drewN hbr5 _⟩
          case measure => simp [intOf]; omega
        · have hc5 := Blk.cell hrf 0
          simp at hc5
          go_wp2_with fail
          go_quiet ((first | (go_at_call 12; exact Calls.quiet_of_same ((left_any (show IsRd _ g _ from Blk.drewN hrd _)).mono fun _ _ ⟨a, b⟩ => ⟨a, b.symm⟩)) | (go_at_call 21; exact Calls.quiet_of_same ((rleft_any (show IsRf _ f _ from Blk.drewN hrf _)).mono fun _ _ ⟨a, b⟩ => ⟨a, b.symm⟩)) | (go_at_call 13; exact Calls.quiet_of_same ((rest_any (show IsRd _ g _ from Blk.drewN hrd _)).mono fun _ _ ⟨a, b⟩ => ⟨a, b.symm⟩))))
          go_wp2
          go_roundw
          case rel => exact ⟨k + 1, s, by omega, by go_num, Blk.drewN hrd _, Blk.drewN hrf _, below_drewN hbr _⟩
          case measure => simp [intOf]; omega
      · go_wp2_with fail
        go_ret
        exact ⟨rfl, hbr⟩
  · have h3' : 300 < a0.size ∨ (a0.size ≤ 300 ∧ 60 < len1) := by omega
    clear h3 ZA ZR
    rcases h3' with h3' | ⟨h3', h4⟩
    · go_enter Try.func4, Try.ntmps4
      go_wp2_with fail
      refine (lives_any w).mono ?_
      rintro e w1 ⟨rfl, hb1⟩
      go_wp2_with fail
      go_ret
      exact ⟨rfl, hb1⟩
    · go_enter Try.func4, Try.ntmps4
      go_wp2_with fail
      refine (lives_any w).mono ?_
      rintro e w1 ⟨rfl, hb1⟩
      go_wp2_with fail
      go_ret
      exact ⟨rfl, hb1⟩
end Go.Proofs.Ytiilhiineakccaa
