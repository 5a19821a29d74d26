/-
  The walk of the statement FrameRot: from every start, at every argument, it returns true and changes no block that was there before.
-/
import Derived.Test.YtdfkkebjdjmeiaaFrameLaw
import Derived.Test.YtdfkkebjdjmeiaaFrameTurn
import Derived.Test.YtdfkkebjdjmeiaaBytes
import Derived.Deep.DrawnRows
namespace Go.Proofs.Ytdfkkebjdjmeiaa
open Go.RowKit
open Go.Lib
set_option linter.unusedVariables false
set_option linter.unusedSimpArgs false

theorem bit_and (d k : Nat) (hd : d < 4294967296) : (d.testBit k = true → bits .and .u32 ((d : Int) / 2 ^ k) 1 = 1) ∧ (d.testBit k = false → bits .and .u32 ((d : Int) / 2 ^ k) 1 = 0) := by
  have e : ((d : Int) / 2 ^ k) = ((d / 2 ^ k : Nat) : Int) := by simp
  have hl : d / 2 ^ k < 4294967296 := Nat.lt_of_le_of_lt (Nat.div_le_self _ _) hd
  have h1 : bits .and .u32 ((d / 2 ^ k : Nat) : Int) 1 = ((d / 2 ^ k &&& 1 : Nat) : Int) := u32_and_nat _ 1 hl (by omega)
  rw [e, h1, Nat.and_one_is_mod]
  rw [Nat.testBit_eq_decide_div_mod_eq]
  constructor
  · intro h
    have h := of_decide_eq_true h
    omega
  · intro h
    have h := of_decide_eq_false h
    omega
theorem byte_pow_xor (b : UInt8) (q : Nat) (hq : q < 8) : bits .xor .u8 (b.toNat : Int) ((2 : Int) ^ q % 256) = ((b ^^^ (2 ^ q).toUInt8).toNat : Int) := by
  have hp : 2 ^ q ≤ 2 ^ 7 := Nat.pow_le_pow_right (by omega) (by omega)
  have e : ((2 : Int) ^ q % 256) = ((2 ^ q : Nat) : Int) := by
    have e2 : ((2 : Int) ^ q) = ((2 ^ q : Nat) : Int) := by simp
    rw [e2]
    generalize 2 ^ q = P at *
    omega
  have hb := b.toNat_lt
  rw [e, u8_xor_nat _ _ hb (by omega), UInt8.toNat_xor]
  congr 2
  simp only [Nat.toUInt8_eq, UInt8.toNat_ofNat']
  omega
theorem xor_nat8 (b : UInt8) (n : Nat) : (b ^^^ n.toUInt8).toNat = b.toNat ^^^ n % 256 := by
  rw [UInt8.toNat_xor]
  simp only [Nat.toUInt8_eq, UInt8.toNat_ofNat']

set_option maxHeartbeats 6400000 in
set_option maxRecDepth 100000 in
theorem frot_main (n kd ct pg lk tx : Nat) (bd : ByteArray) (c : Int) (d : Nat) (w : World) (hd : d < 4294967296) (h0 : d ≠ 0) (hbl : bd.size ≤ 4200) (hm : mayPg n kd ct pg lk tx bd = true) :
    Calls Try.prog 4 #[.int .i64 n, .agg #[.int .i64 kd, .int .i64 ct, .int .u32 pg, .int .u32 lk, .int .u64 tx, .string bd], .int .i64 c, .int .u32 d] w fun e w' => e = .returned (.bool true) ∧ Below w.heap.size w w' := by
  have hmm := hm
  simp only [mayPg, Bool.and_eq_true, decide_eq_true_eq] at hmm
  obtain ⟨hg, -, -, -, -, -, -, -, m8⟩ := hmm
  have hgp := good_pos hg
  obtain ⟨s, hs⟩ : ∃ s, s = pageB kd ct pg lk tx bd := ⟨_, rfl⟩
  have hss : s.size = n := by rw [hs, pageB_size]; omega
  have hsum : leNat (List.take 4 s.data.toList) = crcM 0 (List.drop 4 s.data.toList) := by rw [hs]; exact pageB_sum _ _ _ _ _ _
  have HP : ∀ w : World, Calls Try.prog 7 #[.int .i64 n, .agg #[.int .i64 kd, .int .i64 ct, .int .u32 pg, .int .u32 lk, .int .u64 tx, .string bd]] w fun e w' => e = .returned (.tuple #[.string s, .int .i64 0]) ∧ Below w.heap.size w w' := fun w => by rw [hs]; exact fput_yes n kd ct pg lk tx bd w hm
  obtain ⟨p, hp⟩ : ∃ p : Nat, (p : Int) = c % ((8 * s.size - 31 : Nat) : Int) := ⟨(c % ((8 * s.size - 31 : Nat) : Int)).toNat, by have := Int.emod_nonneg c (show ((8 * s.size - 31 : Nat) : Int) ≠ 0 by omega); omega⟩
  have hp2 : p + 32 ≤ 8 * s.size := by have := Int.emod_lt_of_pos c (show (0 : Int) < ((8 * s.size - 31 : Nat) : Int) by omega); omega
  have hcast : (8 * (s.size : Int) - 31) = ((8 * s.size - 31 : Nat) : Int) := by omega
  have hbad : ∀ na nb : Nat, Parts d p 32 na nb → (na = 0 ∨ nb = 0) → ¬ leNat (List.take 4 (turned s.data.toList d p 32)) = crcM 0 (List.drop 4 (turned s.data.toList d p 32)) := fun na nb h1 h2 =>
    burst_bad s.data.toList d p hd h0 (by rw [size_list]; exact hp2) (by rw [size_list]; omega) hsum (h2.imp h1.1 h1.2)
  have hsa : s.size ≤ 4096 := by omega
  have hsb : 128 ≤ s.size := by omega
  have HC := fun w => pick_any c (8 * s.size - 31) w (by omega) (by omega)
  rw [← hp] at HC
  have hd1 : decide ((4200 : Int) < bd.size) = false := by simp; omega
  have hd3 : ((d : Int) == 0) = false := by simpa using h0
  have hcv0 := fun w => run_bytes_of_string (P := Try.prog) w 9 34 5 s Try.underlying9 Try.underlying34 Try.underlying5
  have HSS := Lib.hid hss
  have HG := Lib.hid hg
  obtain ⟨w0, hw0⟩ : ∃ w0, w0 = w.alloc (.cells #[.int .i64 kd, .int .i64 ct, .int .u32 pg, .int .u32 lk, .int .u64 tx, .string bd] 29) := ⟨_, rfl⟩
  have B0 := Lib.hid (show Blk w0 w.heap.size 29 #[.int .i64 kd, .int .i64 ct, .int .u32 pg, .int .u32 lk, .int .u64 tx, .string bd] by rw [hw0]; exact Blk.new _ _ _)
  have HB := Lib.hid (show Below w.heap.size w w0 by rw [hw0]; exact (Below.refl _ _).alloc (Nat.le_refl _) _)
  clear hs hss hsum hp hm m8 hgp hg hbl
  go_enter Try.func4, Try.ntmps4
  go_wp2_with fail
  rw [← hw0]
  clear hw0
  refine (lives_any _).mono ?_
  rintro e w1 ⟨rfl, hb⟩
  replace HB := Lib.hid (HB.out.trans (hb.mono HB.out.size))
  replace B0 := Lib.hid (B0.out.below hb B0.out.lt)
  clear hb
  have k0 := B0.out.cell 0
  have k1 := B0.out.cell 1
  have k2 := B0.out.cell 2
  have k3 := B0.out.cell 3
  have k4 := B0.out.cell 4
  have k5 := B0.out.cell 5
  simp at k0 k1 k2 k3 k4 k5
  go_wp2_with fail
  refine (HP _).mono ?_
  rintro e w2 ⟨rfl, hb⟩
  replace HB := Lib.hid (HB.out.trans (hb.mono HB.out.size))
  replace B0 := Lib.hid (B0.out.below hb B0.out.lt)
  clear hb k0 k1 k2 k3 k4 k5
  go_wp2_with fail
  refine (HC _).mono ?_
  rintro e w' ⟨rfl, rfl⟩
  have r0 := MRow.of_bytes w2 5 s (grownCap w2 s.size 0 5)
  have hb2 : Below w.heap.size w (w2.drew.alloc (.cells (bytesRow s (grownCap w2 s.size 0 5)) 5 ((bytesRow s (grownCap w2 s.size 0 5)).size, (bytesRow s (grownCap w2 s.size 0 5)).size + 1))) := HB.out.drew.alloc HB.out.size _
  have b2 := B0.out.drew.alloc (.cells (bytesRow s (grownCap w2 s.size 0 5)) 5 ((bytesRow s (grownCap w2 s.size 0 5)).size, (bytesRow s (grownCap w2 s.size 0 5)).size + 1))
  have R0 := Lib.hid r0
  have HB2 := Lib.hid hb2
  have B2 := Lib.hid b2
  have hgl := HB.out.size
  have hne : w.heap.size ≠ w2.heap.size := Nat.ne_of_lt B0.out.lt
  clear r0 hb2 b2 B0 HB
  go_wp2_with fail
  clear hcv0 hd1 hd3 hcast HP HC
  generalize grownCap w2 s.size 0 5 = cap at *
  go_loopw [12, 13, 14] (fun a b i wr => ∃ k na nb : Nat, k ≤ 32 ∧ na ≤ k ∧ nb ≤ k ∧ a = .int .i64 na ∧ b = .int .i64 nb ∧ i = .int .i64 k ∧ Hid (Parts d p k na nb) ∧ MRow wr w2.heap.size (turned s.data.toList d p k) ∧ Hid (Below w.heap.size w wr) ∧ Hid (Blk wr w.heap.size 29 #[.int .i64 kd, .int .i64 ct, .int .u32 pg, .int .u32 lk, .int .u64 tx, .string bd])) (fun _ _ i _ => 32 - (RowKit.intOf i).toNat)
  case atStart => exact ⟨0, 0, 0, by omega, by omega, by omega, rfl, rfl, rfl, parts_zero _ _, by rw [turned_zero]; exact R0.out, HB2, B2⟩
  case round =>
    clear R0 HB2 B2
    obtain ⟨k, na, nb, hk, hna, hnb, rfl, rfl, rfl, HPA, hr, HBR, BR⟩ := hrel
    have hl := turned_len s.data.toList d p k
    by_cases hlt : k < 32
    · have hj : (p + k) / 8 < (turned s.data.toList d p k).length := by rw [hl]; simp; omega
      have hc := hr.cell hj
      have hf := hr.frozen hj
      have HL := Lib.hid hl
      have HR := Lib.hid hr
      clear hl hr
      rcases hb : d.testBit k with _ | _
      · have ht := (bit_and d k hd).2 hb
        go_wp2
        go_roundw
        case rel => exact ⟨k + 1, na, nb, by omega, by omega, by omega, rfl, rfl, by go_num, parts_same HPA.out hb, by rw [turned_same _ _ _ _ hb]; exact HR.out, HBR, BR⟩
        case measure => simp [RowKit.intOf]; omega
      · have ht := (bit_and d k hd).1 hb
        have hx := byte_pow_xor (turned s.data.toList d p k)[(p + k) / 8] ((p + k) % 8) (Nat.mod_lt _ (by omega))
        have hrow : MRow (wr.setCell ⟨w2.heap.size, (p + k) / 8, none⟩ (.int .u8 ((turned s.data.toList d p k)[(p + k) / 8].toNat ^^^ (2 ^ ((p + k) % 8)) % 256 : Nat))) w2.heap.size (turned s.data.toList d p (k + 1)) := by
          rw [turned_next _ _ _ _ hb hj]
          have h5 := HR.out.set_ hj ((turned s.data.toList d p k)[(p + k) / 8] ^^^ (2 ^ ((p + k) % 8)).toUInt8)
          rw [xor_nat8] at h5
          exact h5
        have HROW := Lib.hid hrow
        clear hrow
        by_cases h32 : p + k < 32
        · have q1 : decide ((p : Int) + (k : Int) < 32) = true := by simp; omega
          go_wp2
          go_roundw
          case rel => exact ⟨k + 1, na + 1, nb, by omega, by omega, by omega, by go_num, rfl, by go_num, parts_ahead HPA.out h32, HROW.out, HBR.out.setCell hgl _, BR.out.far hne _⟩
          case measure => simp [RowKit.intOf]; omega
        · have q1 : decide ((p : Int) + (k : Int) < 32) = false := by simp; omega
          go_wp2
          go_roundw
          case rel => exact ⟨k + 1, na, nb + 1, by omega, by omega, by omega, rfl, by go_num, by go_num, parts_behind HPA.out hb (by omega), HROW.out, HBR.out.setCell hgl _, BR.out.far hne _⟩
          case measure => simp [RowKit.intOf]; omega
    · obtain rfl : k = 32 := by omega
      have hcv := run_string_reads wr 34 9 5 cap Try.underlying34 Try.underlying5 Try.underlying9 hr.reads
      rw [hl, show s.data.toList.length = s.size by simp] at hcv
      obtain ⟨T, hT⟩ : ∃ T : ByteArray, T = ⟨(turned s.data.toList d p 32).toArray⟩ := ⟨_, rfl⟩
      rw [← hT] at hcv
      have hTl : T.data.toList = turned s.data.toList d p 32 := by rw [hT]
      have hTs : (T.size : Int) = n := by rw [← size_list, hTl, hl, size_list, HSS.out]
      have HGet : (na = 0 ∨ nb = 0) → ∀ w : World, Calls Try.prog 9 #[.int .i64 n, .int .u32 pg, .string T] w fun e w' => e = .returned (.tuple #[.agg #[.int .i64 0, .int .i64 0, .int .u32 0, .int .u32 0, .int .u64 0, .string ByteArray.empty], .int .i64 4]) ∧ Below w.heap.size w w' := fun h w =>
        get_sum n T pg w HG.out hTs (by rw [hTl]; exact hbad na nb HPA.out h)
      clear hT hTl hTs hl hr
      have k2 := BR.out.cell 2
      simp at k2
      by_cases e1 : na = 0
      · have q1 : decide ((0 : Int) < (na : Int)) = false := by simp; omega
        have q2 : decide (0 < na) = false := by simp; omega
        have hG := HGet (.inl e1)
        clear HGet
        go_wp2_with fail
        refine (hG _).mono ?_
        rintro e w3 ⟨rfl, hb3⟩
        have hbb := HBR.out.trans (hb3.mono HBR.out.size)
        go_wp2_with fail
        go_ret
        exact ⟨rfl, hbb.alloc hbb.size _⟩
      · have q1 : decide ((0 : Int) < (na : Int)) = true := by simp; omega
        have q2 : decide (0 < na) = true := by simp; omega
        by_cases e2 : nb = 0
        · have q3 : decide ((0 : Int) < (nb : Int)) = false := by simp; omega
          have q4 : decide (0 < nb) = false := by simp; omega
          have hG := HGet (.inr e2)
          clear HGet
          go_wp2_with fail
          refine (hG _).mono ?_
          rintro e w3 ⟨rfl, hb3⟩
          have hbb := HBR.out.trans (hb3.mono HBR.out.size)
          go_wp2_with fail
          go_ret
          exact ⟨rfl, hbb.alloc hbb.size _⟩
        · have q3 : decide ((0 : Int) < (nb : Int)) = true := by simp; omega
          have q4 : decide (0 < nb) = true := by simp; omega
          clear HGet
          go_wp2_with fail
          go_ret
          exact ⟨rfl, HBR.out⟩
theorem frot_long (z kd ct : Int) (pg lk tx : Nat) (bd : ByteArray) (c : Int) (d : Nat) (w : World) (h : 4200 < bd.size) :
    Calls Try.prog 4 #[.int .i64 z, .agg #[.int .i64 kd, .int .i64 ct, .int .u32 pg, .int .u32 lk, .int .u64 tx, .string bd], .int .i64 c, .int .u32 d] w fun e w' => e = .returned (.bool true) ∧ Below w.heap.size w w' := by
  have hd1 : decide ((4200 : Int) < bd.size) = true := by simp; omega
  obtain ⟨w0, hw0⟩ : ∃ w0, w0 = w.alloc (.cells #[.int .i64 kd, .int .i64 ct, .int .u32 pg, .int .u32 lk, .int .u64 tx, .string bd] 29) := ⟨_, rfl⟩
  have B0 := Lib.hid (show Blk w0 w.heap.size 29 #[.int .i64 kd, .int .i64 ct, .int .u32 pg, .int .u32 lk, .int .u64 tx, .string bd] by rw [hw0]; exact Blk.new _ _ _)
  have HB := Lib.hid (show Below w.heap.size w w0 by rw [hw0]; exact (Below.refl _ _).alloc (Nat.le_refl _) _)
  go_enter Try.func4, Try.ntmps4
  go_wp2_with fail
  rw [← hw0]
  clear hw0
  refine (lives_any _).mono ?_
  rintro e w1 ⟨rfl, hb⟩
  replace HB := Lib.hid (HB.out.trans (hb.mono HB.out.size))
  replace B0 := Lib.hid (B0.out.below hb B0.out.lt)
  clear hb
  have k0 := B0.out.cell 0
  have k1 := B0.out.cell 1
  have k2 := B0.out.cell 2
  have k3 := B0.out.cell 3
  have k4 := B0.out.cell 4
  have k5 := B0.out.cell 5
  simp at k0 k1 k2 k3 k4 k5
  go_wp2_with fail
  go_ret
  exact ⟨rfl, HB.out⟩
theorem frot_zero (z kd ct : Int) (pg lk tx : Nat) (bd : ByteArray) (c : Int) (d : Nat) (w : World) (h : bd.size ≤ 4200) (h2 : d = 0) :
    Calls Try.prog 4 #[.int .i64 z, .agg #[.int .i64 kd, .int .i64 ct, .int .u32 pg, .int .u32 lk, .int .u64 tx, .string bd], .int .i64 c, .int .u32 d] w fun e w' => e = .returned (.bool true) ∧ Below w.heap.size w w' := by
  have hd1 : decide ((4200 : Int) < bd.size) = false := by simp; omega
  subst h2
  obtain ⟨w0, hw0⟩ : ∃ w0, w0 = w.alloc (.cells #[.int .i64 kd, .int .i64 ct, .int .u32 pg, .int .u32 lk, .int .u64 tx, .string bd] 29) := ⟨_, rfl⟩
  have B0 := Lib.hid (show Blk w0 w.heap.size 29 #[.int .i64 kd, .int .i64 ct, .int .u32 pg, .int .u32 lk, .int .u64 tx, .string bd] by rw [hw0]; exact Blk.new _ _ _)
  have HB := Lib.hid (show Below w.heap.size w w0 by rw [hw0]; exact (Below.refl _ _).alloc (Nat.le_refl _) _)
  go_enter Try.func4, Try.ntmps4
  go_wp2_with fail
  rw [← hw0]
  clear hw0
  refine (lives_any _).mono ?_
  rintro e w1 ⟨rfl, hb⟩
  replace HB := Lib.hid (HB.out.trans (hb.mono HB.out.size))
  replace B0 := Lib.hid (B0.out.below hb B0.out.lt)
  clear hb
  have k0 := B0.out.cell 0
  have k1 := B0.out.cell 1
  have k2 := B0.out.cell 2
  have k3 := B0.out.cell 3
  have k4 := B0.out.cell 4
  have k5 := B0.out.cell 5
  simp at k0 k1 k2 k3 k4 k5
  go_wp2_with fail
  go_ret
  exact ⟨rfl, HB.out⟩
theorem frot_none (z kd ct : Int) (pg lk tx : Nat) (bd : ByteArray) (c : Int) (d : Nat) (w : World) (h : bd.size ≤ 4200) (h2 : d ≠ 0) (hm : mayPg z kd ct pg lk tx bd = false) :
    Calls Try.prog 4 #[.int .i64 z, .agg #[.int .i64 kd, .int .i64 ct, .int .u32 pg, .int .u32 lk, .int .u64 tx, .string bd], .int .i64 c, .int .u32 d] w fun e w' => e = .returned (.bool true) ∧ Below w.heap.size w w' := by
  have hd1 : decide ((4200 : Int) < bd.size) = false := by simp; omega
  have hd3 : ((d : Int) == 0) = false := by simpa using h2
  have HP := fun w => fput_no z kd ct pg lk tx bd w hm
  obtain ⟨w0, hw0⟩ : ∃ w0, w0 = w.alloc (.cells #[.int .i64 kd, .int .i64 ct, .int .u32 pg, .int .u32 lk, .int .u64 tx, .string bd] 29) := ⟨_, rfl⟩
  have B0 := Lib.hid (show Blk w0 w.heap.size 29 #[.int .i64 kd, .int .i64 ct, .int .u32 pg, .int .u32 lk, .int .u64 tx, .string bd] by rw [hw0]; exact Blk.new _ _ _)
  have HB := Lib.hid (show Below w.heap.size w w0 by rw [hw0]; exact (Below.refl _ _).alloc (Nat.le_refl _) _)
  go_enter Try.func4, Try.ntmps4
  go_wp2_with fail
  rw [← hw0]
  clear hw0
  refine (lives_any _).mono ?_
  rintro e w1 ⟨rfl, hb⟩
  replace HB := Lib.hid (HB.out.trans (hb.mono HB.out.size))
  replace B0 := Lib.hid (B0.out.below hb B0.out.lt)
  clear hb
  have k0 := B0.out.cell 0
  have k1 := B0.out.cell 1
  have k2 := B0.out.cell 2
  have k3 := B0.out.cell 3
  have k4 := B0.out.cell 4
  have k5 := B0.out.cell 5
  simp at k0 k1 k2 k3 k4 k5
  go_wp2_with fail
  refine (HP _).mono ?_
  rintro e w2 ⟨rfl, hb⟩
  replace HB := Lib.hid (HB.out.trans (hb.mono HB.out.size))
  clear hb
  go_wp2_with fail
  go_ret
  exact ⟨rfl, HB.out⟩
theorem frot_walk (z kd ct : Int) (pg lk tx : Nat) (bd : ByteArray) (c d : Int) (w : World) (_h0 : (Lit.int .i64 z).wf = true) (_hp : pg < 4294967296 ∧ lk < 4294967296 ∧ tx < 18446744073709551616 ∧ bd.size ≤ maxLen) (_h1 : (Lit.int .i64 c).wf = true) (h2 : (Lit.int .u32 d).wf = true) :
    Calls Try.prog 4 #[.int .i64 z, .agg #[.int .i64 kd, .int .i64 ct, .int .u32 pg, .int .u32 lk, .int .u64 tx, .string bd], .int .i64 c, .int .u32 d] w fun e w' => e = .returned (.bool true) ∧ Below w.heap.size w w' := by
  have hu := bounds_u32 h2
  obtain ⟨d, rfl⟩ := Int.eq_ofNat_of_zero_le hu.1
  by_cases hb : bd.size ≤ 4200
  case neg => exact frot_long z kd ct pg lk tx bd c d w (by omega)
  by_cases h0 : d = 0
  case pos => exact frot_zero z kd ct pg lk tx bd c d w hb h0
  rcases hm : mayPg z kd ct pg lk tx bd with _ | _
  · exact frot_none z kd ct pg lk tx bd c d w hb h0 hm
  · have hmm := hm
    simp only [mayPg, Bool.and_eq_true, decide_eq_true_eq] at hmm
    obtain ⟨hg, m1, m2, m3, m4, m5, m6, m7, m8⟩ := hmm
    obtain ⟨n, rfl, _, _, _⟩ := good_nat hg
    obtain ⟨kd, rfl⟩ := Int.eq_ofNat_of_zero_le (show 0 ≤ kd by omega)
    obtain ⟨ct, rfl⟩ := Int.eq_ofNat_of_zero_le m3
    exact frot_main n kd ct pg lk tx bd c d w (by omega) h0 hb hm
end Go.Proofs.Ytdfkkebjdjmeiaa
