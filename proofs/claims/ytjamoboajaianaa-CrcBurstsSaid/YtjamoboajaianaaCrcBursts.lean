/-
  The walk of the statement CrcBursts: from every start, at every argument, it returns true and changes no block that was there before.
-/
import Derived.Test.YtjamoboajaianaaCrcLaw
import Derived.Test.YtjamoboajaianaaBytes
namespace Go.Proofs.Ytjamoboajaianaa
open Go.RowKit Go.Lib
set_option linter.unusedVariables false
set_option linter.unusedSimpArgs false

theorem bit_and (d k : Nat) (hd : d < 4294967296) : (d.testBit k = true → bits .and .u32 ((d : Int) / 2 ^ k) 1 = 1) ∧ (d.testBit k = false → bits .and .u32 ((d : Int) / 2 ^ k) 1 = 0) := by
  have e : ((d : Int) / 2 ^ k) = ((d / 2 ^ k : Nat) : Int) := by simp
  have hl : d / 2 ^ k < 4294967296 := Nat.lt_of_le_of_lt (Nat.div_le_self _ _) hd
  have h1 : bits .and .u32 ((d / 2 ^ k : Nat) : Int) 1 = ((d / 2 ^ k &&& 1 : Nat) : Int) := u32_and_nat _ 1 hl (by omega)
  rw [e, h1, Nat.and_one_is_mod]
  rw [Nat.testBit_eq_decide_div_mod_eq]
  constructor
  · intro h
    have h := of_decide_eq_true h
    omega
  · intro h
    have h := of_decide_eq_false h
    omega
theorem byte_pow_xor (b : UInt8) (q : Nat) (hq : q < 8) : bits .xor .u8 (b.toNat : Int) ((2 : Int) ^ q % 256) = ((b ^^^ (2 ^ q).toUInt8).toNat : Int) := by
  have hp : 2 ^ q ≤ 2 ^ 7 := Nat.pow_le_pow_right (by omega) (by omega)
  have e : ((2 : Int) ^ q % 256) = ((2 ^ q : Nat) : Int) := by
    have e2 : ((2 : Int) ^ q) = ((2 ^ q : Nat) : Int) := by simp
    rw [e2]
    generalize 2 ^ q = P at *
    omega
  have hb := b.toNat_lt
  rw [e, u8_xor_nat _ _ hb (by omega), UInt8.toNat_xor]
  congr 2
  simp only [Nat.toUInt8_eq, UInt8.toNat_ofNat']
  omega
theorem xor_nat8 (b : UInt8) (n : Nat) : (b ^^^ n.toUInt8).toNat = b.toNat ^^^ n % 256 := by
  rw [UInt8.toNat_xor]
  simp only [Nat.toUInt8_eq, UInt8.toNat_ofNat']
set_option maxRecDepth 100000 in
theorem cbursts_walk (a : ByteArray) (c d : Int) (w : World) (h0 : a.size ≤ maxLen) (_h1 : (Lit.int .i64 c).wf = true) (h2 : (Lit.int .u32 d).wf = true) :
    Calls Try.prog 5 #[.string a, .int .i64 c, .int .u32 d] w fun e w' => e = .returned (.bool true) ∧ Below w.heap.size w w' := by
  have hu := bounds_u32 h2
  obtain ⟨d, rfl⟩ := Int.eq_ofNat_of_zero_le hu.1
  have hd : d < 4294967296 := by omega
  have hm := Lib.hid h0
  unfold maxLen at h0
  clear h2 hu
  by_cases hc : 5 ≤ a.size ∧ a.size ≤ 600 ∧ d ≠ 0
  · obtain ⟨g1, g2, g3⟩ := hc
    have hd1 : decide ((600 : Int) < a.size) = false := by simp; omega
    have hd2 : decide ((a.size : Int) < 5) = false := by simp; omega
    have hd3 : ((d : Int) == 0) = false := by simpa using g3
    have hcv := fun w => run_bytes_of_string (P := Try.prog) w 9 30 5 a Try.underlying9 Try.underlying30 Try.underlying5
    obtain ⟨p, hp⟩ : ∃ p : Nat, (p : Int) = c % ((8 * a.size - 39 : Nat) : Int) := ⟨(c % ((8 * a.size - 39 : Nat) : Int)).toNat, by have := Int.emod_nonneg c (show ((8 * a.size - 39 : Nat) : Int) ≠ 0 by omega); omega⟩
    have hp2 : p + 40 ≤ 8 * a.size := by have := Int.emod_lt_of_pos c (show (0 : Int) < ((8 * a.size - 39 : Nat) : Int) by omega); omega
    have HP := Lib.hid hp
    have hcast : (8 * (a.size : Int) - 39) = ((8 * a.size - 39 : Nat) : Int) := by omega
    clear hp
    go_enter Try.func5, Try.ntmps5
    go_wp2_with fail
    refine (lives02_any w).mono ?_
    rintro e w1 ⟨rfl, hb1⟩
    go_wp2_with fail
    refine (pick_any c (8 * a.size - 39) _ (by omega) (by omega)).mono ?_
    rw [← HP.out]
    rintro e w' ⟨rfl, rfl⟩
    have r0 := MRow.of_bytes w1 5 a (grownCap w1 a.size 0 5)
    have hb2 : Below w.heap.size w (w1.drew.alloc (.cells (bytesRow a (grownCap w1 a.size 0 5)) 5 ((bytesRow a (grownCap w1 a.size 0 5)).size, (bytesRow a (grownCap w1 a.size 0 5)).size + 1))) := hb1.drew.alloc hb1.size _
    have R0 := Lib.hid r0
    have HB := Lib.hid hb2
    have hg := hb1.size
    clear r0 hb2 hb1
    go_wp2_with fail
    clear hcv hd1 hd2 hd3 hcast
    generalize grownCap w1 a.size 0 5 = cap at *
    go_loopw [8] (fun i wr => ∃ k : Nat, k ≤ 32 ∧ i = .int .i64 k ∧ MRow wr w1.heap.size (turned a.data.toList d p k) ∧ Below w.heap.size w wr) (fun i _ => 32 - (intOf i).toNat)
    case atStart => exact ⟨0, by omega, rfl, by rw [turned_zero]; exact R0.out, HB.out⟩
    case round =>
      obtain ⟨k, hk, rfl, hr, hbr⟩ := hrel
      have hl := turned_len a.data.toList d p k
      by_cases hlt : k < 32
      · have hj : (p + k) / 8 < (turned a.data.toList d p k).length := by rw [hl]; simp; omega
        have hc := hr.cell hj
        have hf := hr.frozen hj
        have HL := Lib.hid hl
        have HR := Lib.hid hr
        clear hl hr
        rcases hb : d.testBit k with _ | _
        · have ht := (bit_and d k hd).2 hb
          go_wp2
          go_roundw
          case rel => exact ⟨k + 1, by omega, by go_num, by rw [turned_same _ _ _ _ hb]; exact HR.out, hbr⟩
          case measure => simp [intOf]; omega
        · have ht := (bit_and d k hd).1 hb
          have hx := byte_pow_xor (turned a.data.toList d p k)[(p + k) / 8] ((p + k) % 8) (Nat.mod_lt _ (by omega))
          go_wp2
          go_roundw
          case rel =>
            refine ⟨k + 1, by omega, by go_num, ?_, hbr.setCell hg _⟩
            rw [turned_next _ _ _ _ hb hj]
            have h5 := HR.out.set_ hj ((turned a.data.toList d p k)[(p + k) / 8] ^^^ (2 ^ ((p + k) % 8)).toUInt8)
            rw [xor_nat8] at h5
            exact h5
          case measure => simp [intOf]; omega
      · obtain rfl : k = 32 := by omega
        have hne := run_turned a.data.toList 4294967295 d p hd g3 (by simp; omega)
        have hcv := run_string_reads wr 30 9 5 cap Try.underlying30 Try.underlying5 Try.underlying9 hr.reads
        rw [hl, show a.data.toList.length = a.size by simp] at hcv
        have hsz : (⟨(turned a.data.toList d p 32).toArray⟩ : ByteArray).size ≤ maxLen := by
          have : (⟨(turned a.data.toList d p 32).toArray⟩ : ByteArray).size = (turned a.data.toList d p 32).length := by simp [ByteArray.size]
          rw [this, hl]
          have := hm.out
          simpa using this
        have HN := Lib.hid hne
        have HS := Lib.hid hsz
        have HL := Lib.hid hl
        clear hne hsz hl hr
        go_wp2_with fail
        refine (of_any _ _ HS.out).mono ?_
        rintro e w2 ⟨rfl, hb2⟩
        go_wp2_with fail
        refine (of_any a _ hm.out).mono ?_
        rintro e w3 ⟨rfl, hb3⟩
        have hd : (((crcM 0 (turned a.data.toList d p 32) : Nat) : Int) != ((crcM 0 a.data.toList : Nat) : Int)) = true := by
          have h1 := HN.out
          have h2 := run_lt (turned a.data.toList d p 32) (n := 4294967295) (by omega)
          have h3 := run_lt a.data.toList (n := 4294967295) (by omega)
          simp [crcM]
          omega
        go_wp2_with fail
        go_ret
        exact ⟨rfl, (hbr.trans (hb2.mono hbr.size)).trans (hb3.mono (hbr.trans (hb2.mono hbr.size)).size)⟩
  · have hc' : 600 < a.size ∨ (a.size ≤ 600 ∧ a.size < 5) ∨ (a.size ≤ 600 ∧ 5 ≤ a.size ∧ d = 0) := by omega
    clear hc
    rcases hc' with h | ⟨h, h'⟩ | ⟨h, h', rfl⟩
    all_goals
      go_enter Try.func5, Try.ntmps5
      go_wp2_with fail
      refine (lives02_any w).mono ?_
      rintro e w1 ⟨rfl, hb1⟩
      go_wp2_with fail
      go_ret
      exact ⟨rfl, hb1⟩
end Go.Proofs.Ytjamoboajaianaa
