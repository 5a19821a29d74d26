/-
  The library's sort of numbers of 32 bits, sixth part: breakPatterns (a permutation; which one does not matter).
-/
import Derived.Test.YtofbglgdmabafaaJ27
import Derived.Deep.CutRange
import Derived.Deep.CutBlock
namespace Go.Proofs.Ytofbglgdmabafaa
open Go.RowKit Go.Sort
set_option linter.unusedVariables false
set_option linter.unusedSimpArgs false

/-- The row as it was, and a number of 64 bits in a box that is newer than w0. -/
def PivR (blk off : Nat) (d : Array Int) (bs : Nat) (w0 w : World) : Prop := Holds encW w blk off d ∧ SameU blk w0 w ∧ w0.heap.size ≤ bs ∧ ∃ x : Int, Blk w bs 158 #[.int .u64 x]
theorem PivR.set {blk off : Nat} {d : Array Int} {bs : Nat} {w0 w : World} (h : PivR blk off d bs w0 w) (y : Int) : PivR blk off d bs w0 (w.setCell ⟨bs, 0, none⟩ (.int .u64 y)).drew := by
  obtain ⟨h1, h2, h3, x, hx⟩ := h
  have hl := h2.2.1
  refine ⟨holds_other h1 (p := ⟨bs, 0, none⟩) (by show blk ≠ bs; omega) _, (h2.setNew (p := ⟨bs, 0, none⟩) h3 _).drew, h3, y, ?_⟩
  exact hx.set_ 0 (.int .u64 y)
theorem PivR.swp {blk off : Nat} {d : Array Int} {bs : Nat} {w0 w : World} (h : PivR blk off d bs w0 w) {i j : Nat} (hi : i < d.size) (hj : j < d.size) : PivR blk off (Sort.swp d i j) bs w0 (((w.setCell ⟨blk, off + i, none⟩ (.int .u32 d[j]!)).setCell ⟨blk, off + j, none⟩ (.int .u32 d[i]!)).drew) := by
  obtain ⟨h1, h2, h3, x, hx⟩ := h
  have hl := h2.2.1
  exact ⟨holds_swp h1 hi hj, (same_swp h2).drew, h3, x, (hx.far (p := ⟨blk, off + i, none⟩) (by show bs ≠ blk; omega) _).far (p := ⟨blk, off + j, none⟩) (by show bs ≠ blk; omega) _⟩
set_option maxRecDepth 100000 in
set_option maxHeartbeats 6400000 in
theorem nextU (blk off bs : Nat) (d : Array Int) (w0 w : World) (hP : PivR blk off d bs w0 w) :
    Calls Try.prog 112 #[.pointer (some ⟨bs, 0, none⟩)] w fun e w' => ∃ y : Int, e = .returned (.int .u64 y) ∧ PivR blk off d bs w0 w' := by
  have HP := Lib.hid hP
  obtain ⟨x, hx⟩ := hP.2.2.2
  have k0 := hx.cell 0
  have k1 := hx.frozen 0
  simp at k0
  clear hx hP
  go_enter Try.func112, Try.ntmps112
  go_upto_region 1 with fail
  go_region
  all_goals (go_upto_region 2 with fail)
  generalize bits .xor .u64 x _ = z1
  have HP1 := Lib.hid (HP.out.set z1)
  obtain ⟨w1, hw1⟩ : ∃ y, y = (w.setCell ⟨bs, 0, none⟩ (.int .u64 z1)).drew := ⟨_, rfl⟩
  rw [← hw1] at HP1 ⊢
  clear k0 k1 hw1 HP
  obtain ⟨x1, hx1⟩ := HP1.out.2.2.2
  have k0 := hx1.cell 0
  have k1 := hx1.frozen 0
  simp at k0
  clear hx1
  go_region
  all_goals (go_upto_region 3 with fail)
  generalize bits .xor .u64 x1 _ = z2
  have HP2 := Lib.hid (HP1.out.set z2)
  obtain ⟨w2, hw2⟩ : ∃ y, y = (w1.setCell ⟨bs, 0, none⟩ (.int .u64 z2)).drew := ⟨_, rfl⟩
  rw [← hw2] at HP2 ⊢
  clear k0 k1 hw2 HP1
  obtain ⟨x2, hx2⟩ := HP2.out.2.2.2
  have k0 := hx2.cell 0
  have k1 := hx2.frozen 0
  simp at k0
  clear hx2
  go_region
  all_goals (go_upto_region 4 with fail)
  generalize bits .xor .u64 x2 _ = z3
  have HP3 := Lib.hid (HP2.out.set z3)
  obtain ⟨w3, hw3⟩ : ∃ y, y = (w2.setCell ⟨bs, 0, none⟩ (.int .u64 z3)).drew := ⟨_, rfl⟩
  rw [← hw3] at HP3 ⊢
  clear k0 k1 hw3 HP2
  obtain ⟨x3, hx3⟩ := HP3.out.2.2.2
  have k0 := hx3.cell 0
  have k1 := hx3.frozen 0
  simp at k0
  clear hx3
  go_wp2
  go_ret
  exact ⟨x3, rfl, HP3.out⟩
theorem len_pow : ∀ (n x : Nat), x ≤ n → 1 ≤ x → x < 18446744073709551616 → 2 ^ Lib.bitLen x ≤ 2 * x := by
  intro n
  induction n with
  | zero => intro x h h1; omega
  | succ n ih =>
    intro x h h1 h2
    rw [Lib.bitLen_half x (by omega) (by simpa using h2)]
    by_cases h3 : x / 2 = 0
    · rw [h3, show Lib.bitLen 0 = 0 from rfl]
      show 2 ≤ 2 * x
      omega
    · have := ih (x / 2) (by omega) (by omega) (by omega)
      rw [Nat.pow_add]
      omega
set_option maxRecDepth 100000 in
set_option maxHeartbeats 6400000 in
theorem powU (l : Nat) (w : World) (h1 : 1 ≤ l) (h2 : l < 4611686018427387904) :
    Calls Try.prog 111 #[.int .i64 l] w fun e w' => ∃ m : Nat, e = .returned (.int .u64 m) ∧ (1 ≤ m ∧ m ≤ 2 * l) ∧ w' = w := by
  obtain ⟨k, hk⟩ : ∃ k, k = Lib.bitLen l := ⟨_, rfl⟩
  have hp := len_pow l l (Nat.le_refl _) h1 (by omega)
  rw [← hk] at hp
  have hm : 1 ≤ 2 ^ k := Nat.one_le_two_pow
  have hB := fun w => Try.bits_Len (l : Int) w (by omega) (by omega)
  simp only [Int.toNat_natCast, ← hk] at hB
  have cw : IntKind.u64.wrap (l : Int) = (l : Int) := by rw [IntKind.wrap_u64]; omega
  go_enter Try.func111, Try.ntmps111
  go_wp2_with (go_at_call 62; refine (hB _).mono ?_; rintro e w' ⟨rfl, rfl⟩)
  go_ret
  have hk64 : k < 64 := by
    refine Nat.lt_of_not_le fun hc => ?_
    have := Nat.pow_le_pow_right (show 0 < 2 by decide) hc
    omega
  refine ⟨2 ^ k, ?_, ⟨hm, hp⟩, rfl⟩
  have e : IntKind.u64.wrap (2 ^ min (Lib.bitLen l) 64) = ((2 ^ k : Nat) : Int) := by
    rw [← hk, Nat.min_eq_left (by omega), IntKind.wrap_u64]
    have e2 : (2 : Int) ^ k = ((2 ^ k : Nat) : Int) := by simp
    rw [e2]
    omega
  rw [e]
  rfl
theorem and_le (y : Int) (c : Nat) (hc : c < 18446744073709551616) : ∃ n : Nat, n ≤ c ∧ bits .and .u64 y (c : Int) = (n : Int) := by
  have h2 : (BitVec.ofInt 64 (c : Int)).toNat = c := by
    rw [BitVec.ofInt_natCast, BitVec.toNat_ofNat]; exact Nat.mod_eq_of_lt (by omega)
  refine ⟨(BitVec.ofInt 64 y).toNat &&& c, Nat.and_le_right, ?_⟩
  have hx : (BitVec.ofInt 64 y).toNat &&& c ≤ c := Nat.and_le_right
  show IntKind.u64.wrap ((BitVec.ofInt 64 y &&& BitVec.ofInt 64 (c : Int)).toNat : Int) = _
  rw [BitVec.toNat_and, h2, IntKind.wrap_u64]
  omega
set_option maxRecDepth 100000 in
set_option maxHeartbeats 6400000 in
theorem breakU (blk off cap a b : Nat) (d : Array Int) (w : World) (hH : Holds encW w blk off d) (hab : a + 12 < b) (hb : b ≤ d.size) (hsz : d.size < 4611686018427387904) (hblk : blk < w.heap.size) :
    Calls Try.prog 88 #[.slice (some ⟨blk, off, none⟩) d.size cap, .int .i64 a, .int .i64 b] w fun e w' =>
      e = .returned (.tuple #[]) ∧ ∃ d', PermIn a b d d' ∧ Holds encW w' blk off d' ∧ SameU blk w w' := by
  obtain ⟨l, hl⟩ : ∃ l, l = b - a := ⟨_, rfl⟩
  obtain ⟨t, ht⟩ : ∃ t, t = l / 4 := ⟨_, rfl⟩
  obtain ⟨t2, ht2⟩ : ∃ x, x = t * 2 := ⟨_, rfl⟩
  obtain ⟨c0, hc0⟩ : ∃ x, x = a + t2 := ⟨_, rfl⟩
  obtain ⟨c1, hc1⟩ : ∃ x, x = c0 - 1 := ⟨_, rfl⟩
  obtain ⟨c2, hc2⟩ : ∃ x, x = c0 + 1 := ⟨_, rfl⟩
  have e0 : (b : Int) - (a : Int) = (l : Int) := by omega
  have e4 : Int.tdiv (l : Int) 4 = (t : Int) := by rw [ht]; exact (Int.ofNat_tdiv _ _).symm
  have e6 : (t : Int) * 2 = (t2 : Int) := by omega
  have e1 : (a : Int) + (t2 : Int) = (c0 : Int) := by omega
  have e2 : (c0 : Int) - 1 = (c1 : Int) := by omega
  have e3 : (c0 : Int) + 1 = (c2 : Int) := by omega
  have w1 := i64w l (l : Int) rfl (by omega)
  have w2 := i64w t (t : Int) rfl (by omega)
  have w3 := i64w t2 (t2 : Int) rfl (by omega)
  have w4 := i64w c0 (c0 : Int) rfl (by omega)
  have w5 := i64w c1 (c1 : Int) rfl (by omega)
  have w6 := i64w c2 (c2 : Int) rfl (by omega)
  have g8 : decide ((8 : Int) ≤ (l : Int)) = true := by simp; omega
  have g8b : decide (8 ≤ l) = true := by simp; omega
  have cw : IntKind.u64.wrap (l : Int) = (l : Int) := by rw [IntKind.wrap_u64]; omega
  have F1 := Lib.hid (show a ≤ c1 ∧ c1 ≤ c2 + 1 ∧ c2 + 1 ≤ b ∧ l = b - a ∧ 12 < l by omega)
  have HPw := Lib.hid (fun w => powU l w (by omega) (by omega))
  have HP0 := Lib.hid (show PivR blk off d w.heap.size w (w.alloc (.cells #[.int .u64 l] 158)) from ⟨holds_alloc hH _ hblk, (SameU.refl hblk).alloc _, Nat.le_refl _, l, Blk.new _ _ _⟩)
  have HPm := Lib.hid (permIn_refl d a b)
  clear hH hblk ht2 hc0 hc1 hc2 ht hl
  obtain ⟨bs, hbs⟩ : ∃ x, x = w.heap.size := ⟨_, rfl⟩
  obtain ⟨wa, hwa⟩ : ∃ x, x = w.alloc (.cells #[.int .u64 l] 158) := ⟨_, rfl⟩
  rw [← hbs, ← hwa] at HP0
  go_enter Try.func88, Try.ntmps88
  go_wp2_with fail
  rw [← hwa, ← hbs]
  clear hwa hbs
  refine (HPw.out _).mono ?_
  rintro e wb ⟨m, rfl, hm, rfl⟩
  have HM := Lib.hid hm
  clear hm HPw
  go_wp2_with fail
  go_loopw [9] (fun v wr => ∃ (i : Nat) (dk : Array Int), v = .int .i64 i ∧ c1 ≤ i ∧ i ≤ c2 + 1 ∧ dk.size = d.size ∧ Hid (PivR blk off dk bs w wr) ∧ Hid (PermIn a b d dk)) (fun v _ => c2 + 1 - (RowKit.intOf v).toNat)
  case atStart => exact ⟨c1, d, by go_num, Nat.le_refl _, F1.out.2.1, rfl, HP0, HPm⟩
  case round =>
    clear HP0 HPm
    obtain ⟨i, dk, rfl, hi1, hi2, hs, HP, HQ⟩ := hrel
    by_cases h1 : i ≤ c2
    rotate_left
    · have y1 : decide ((i : Int) ≤ (c2 : Int)) = false := by simp; omega
      have y1b : decide (i ≤ c2) = false := by simp; omega
      go_wp2
      go_end0
      exact ⟨rfl, dk, HQ.out, HP.out.1, HP.out.2.1⟩
    have y1 : decide ((i : Int) ≤ (c2 : Int)) = true := by simp; omega
    have y1b : decide (i ≤ c2) = true := by simp; omega
    go_wp2_with fail
    refine (nextU blk off bs dk w _ HP.out).mono ?_
    rintro e wd ⟨y, rfl, hp⟩
    have HP1 := Lib.hid hp
    clear hp HP
    obtain ⟨mm, hmm⟩ : ∃ x, x = m - 1 := ⟨_, rfl⟩
    have f1 : (m : Int) - 1 = (mm : Int) := by have := HM.out; omega
    have f2 : IntKind.u64.wrap (mm : Int) = (mm : Int) := by rw [IntKind.wrap_u64]; have := HM.out; have := F1.out; omega
    obtain ⟨n, hn, f3⟩ := and_le y mm (by have := HM.out; have := F1.out; omega)
    have f4 := i64w n (n : Int) rfl (by have := HM.out; have := F1.out; omega)
    have hnl : n < 2 * l := by have := HM.out; omega
    have HBd := Lib.hid hb
    have FF := F1.out
    clear hn hmm
    by_cases h2 : l ≤ n
    · have y2 : decide ((l : Int) ≤ (n : Int)) = true := by simp; omega
      have y2b : decide (l ≤ n) = true := by simp; omega
      obtain ⟨o, ho⟩ : ∃ x, x = n - l := ⟨_, rfl⟩
      have f5 : (n : Int) - (l : Int) = (o : Int) := by omega
      have f6 := i64w o (o : Int) rfl (by omega)
      obtain ⟨p, hp1⟩ : ∃ x, x = a + o := ⟨_, rfl⟩
      have f7 : (a : Int) + (o : Int) = (p : Int) := by omega
      have xk := i64w p (p : Int) rfl (by omega)
      have i1 : i < d.size := by omega
      have i1b : (i : Int) < d.size := by omega
      have i2 : p < d.size := by omega
      have i2b : (p : Int) < d.size := by omega
      have JP := Lib.hid (swp_permIn dk a b i p (by omega) (by omega) (by omega) (by omega) (by rw [hs]; exact HBd.out))
      obtain ⟨G, hG⟩ : ∃ G : Nat → Int, ∀ t, G t = dk[t]! := ⟨fun t => dk[t]!, fun _ => rfl⟩
      obtain ⟨hcw, hfw⟩ := row_fact HP1.out.1 hG hs
      have hq := set_far HP1.out.1 (i := i) (j := p) (by rw [hs]; exact i1) (by rw [hs]; exact i2) (G p) (y := G p) (by rw [← hG]; split <;> rfl)
      have HG := Lib.hid hG
      clear hG hp1 FF ho
      go_wp2
      go_region
      all_goals go_wp2
      go_roundw
      case rel =>
        have h9 := Lib.hid (PivR.swp (i := i) (j := p) HP1.out (by rw [hs]; exact i1) (by rw [hs]; exact i2))
        rw [← HG.out, ← HG.out] at h9
        have hs9 : (swp dk i p).size = d.size := by rw [size_swp]; exact hs
        have hp9 := Lib.hid (permIn_trans _ _ _ a b HQ.out JP.out)
        first
          | exact ⟨i + 1, swp dk i p, by go_num, by omega, by omega, hs9, h9, hp9⟩
          | ((repeat apply Exists.intro); refine ⟨⟨i + 1, swp dk i p, ?_, ?_, ?_, hs9, h9, hp9⟩, rfl⟩ <;> first | omega | go_num)
      case measure => simp [RowKit.intOf] <;> omega
    · have y2 : decide ((l : Int) ≤ (n : Int)) = false := by simp; omega
      have y2b : decide (l ≤ n) = false := by simp; omega
      obtain ⟨p, hp1⟩ : ∃ x, x = a + n := ⟨_, rfl⟩
      have f7 : (a : Int) + (n : Int) = (p : Int) := by omega
      have xk := i64w p (p : Int) rfl (by omega)
      have i1 : i < d.size := by omega
      have i1b : (i : Int) < d.size := by omega
      have i2 : p < d.size := by omega
      have i2b : (p : Int) < d.size := by omega
      have JP := Lib.hid (swp_permIn dk a b i p (by omega) (by omega) (by omega) (by omega) (by rw [hs]; exact HBd.out))
      obtain ⟨G, hG⟩ : ∃ G : Nat → Int, ∀ t, G t = dk[t]! := ⟨fun t => dk[t]!, fun _ => rfl⟩
      obtain ⟨hcw, hfw⟩ := row_fact HP1.out.1 hG hs
      have hq := set_far HP1.out.1 (i := i) (j := p) (by rw [hs]; exact i1) (by rw [hs]; exact i2) (G p) (y := G p) (by rw [← hG]; split <;> rfl)
      have HG := Lib.hid hG
      clear hG hp1 FF
      go_wp2
      go_region
      all_goals go_wp2
      go_roundw
      case rel =>
        have h9 := Lib.hid (PivR.swp (i := i) (j := p) HP1.out (by rw [hs]; exact i1) (by rw [hs]; exact i2))
        rw [← HG.out, ← HG.out] at h9
        have hs9 : (swp dk i p).size = d.size := by rw [size_swp]; exact hs
        have hp9 := Lib.hid (permIn_trans _ _ _ a b HQ.out JP.out)
        first
          | exact ⟨i + 1, swp dk i p, by go_num, by omega, by omega, hs9, h9, hp9⟩
          | ((repeat apply Exists.intro); refine ⟨⟨i + 1, swp dk i p, ?_, ?_, ?_, hs9, h9, hp9⟩, rfl⟩ <;> first | omega | go_num)
      case measure => simp [RowKit.intOf] <;> omega
end Go.Proofs.Ytofbglgdmabafaa

