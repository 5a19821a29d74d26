/-
  Texts that the main proof rests on, put together: Turned, CuRot. No statement is proved here.
-/
import Derived.Test.YtmmjckokjmpfpaaGreatJ7
import Derived.Test.YtmmjckokjmpfpaaGreatJ2
import Derived.LoopN
import Derived.Test.YtmmjckokjmpfpaaGreatJ43
import Derived.Deep.CutRange
import Derived.Test.YtmmjckokjmpfpaaGreatJ36
import Derived.Test.YtmmjckokjmpfpaaGreatJ3
import Derived.Lib.MinMax
set_option linter.unusedVariables false
set_option linter.unusedSimpArgs false
namespace Go.Proofs.YtmmjckokjmpfpaaGreat
open Go.RowKit
open Go.Lib
attribute [local go_sem ↓] Go.wp_at_zero Go.wp_at_succ

theorem low_byte (b p i : Nat) : lowAt b p (i + 8) = lowAt b p i ^^^ ((b / 2 ^ i % 256) * 2 ^ (p + i)) := by
 apply Nat.eq_of_testBit_eq
 intro j
 unfold lowAt
 rw [Nat.testBit_xor, Nat.testBit_mul_two_pow, Nat.testBit_mul_two_pow, Nat.testBit_mul_two_pow, Nat.testBit_mod_two_pow, Nat.testBit_mod_two_pow, show (256 : Nat) = 2 ^ 8 from rfl, Nat.testBit_mod_two_pow, Nat.testBit_div_two_pow]
 by_cases h1 : p ≤ j
 ·by_cases h2 : p + i ≤ j
  ·have e : j - (p + i) + i = j - p := by omega
   rw [e]
   by_cases h3 : j - p < i + 8
   ·simp [h1, h2, h3, show ¬ j - p < i by omega, show j - (p + i) < 8 by omega]
   ·simp [h1, h2, h3, show ¬ j - p < i by omega, show ¬ j - (p + i) < 8 by omega]
  ·simp [h1, h2, show j - p < i by omega, show j - p < i + 8 by omega]
 ·simp [h1, show ¬ p + i ≤ j by omega]
theorem byte_mul (v c m : Nat) (hv : v < 256) : v * 2 ^ (8 * c) / 2 ^ (8 * m) % 256 = if m = c then v else 0 := by
 by_cases h : m = c
 ·subst h
  rw [if_pos rfl, Nat.mul_div_cancel _ (Nat.two_pow_pos _), Nat.mod_eq_of_lt hv]
 ·rw [if_neg h]
  by_cases h2 : m < c
  ·have e : 2 ^ (8 * c) = 2 ^ (8 * m) * (256 * 2 ^ (8 * (c - m - 1))) := by
    rw [show (256 : Nat) = 2 ^ 8 from rfl, ← Nat.pow_add, ← Nat.pow_add]
    congr 1
    omega
   rw [e, Nat.mul_left_comm, Nat.mul_div_cancel_left _ (Nat.two_pow_pos _), Nat.mul_left_comm, Nat.mul_mod_right]
  ·have e : 2 ^ (8 * m) = 2 ^ (8 * c) * 2 ^ (8 * (m - c)) := by
    rw [← Nat.pow_add]
    congr 1
    omega
   rw [e, ← Nat.div_div_eq_div_mul, Nat.mul_div_cancel _ (Nat.two_pow_pos _)]
   have : 2 ^ 8 ≤ 2 ^ (8 * (m - c)) := Nat.pow_le_pow_right (by omega) (by omega)
   rw [Nat.div_eq_of_lt (by omega)]
theorem turned_get (l : List UInt8) (b p k m : Nat) (hm : m < l.length) : (turned l b p k)[m]? = some ((l.getD m 0) ^^^ ((lowAt b p k) / 2 ^ (8 * m) % 256).toUInt8) := by
 unfold turned
 rw [List.getElem?_zipWith, leBytes_get _ _ _ hm, List.getElem?_eq_getElem hm]
 simp [List.getD, hm]
theorem turned_byte (l : List UInt8) (d q k : Nat) (hj : q + k < (turned l d (8 * q) (8 * k)).length) :
  turned l d (8 * q) (8 * (k + 1)) = (turned l d (8 * q) (8 * k)).set (q + k) ((turned l d (8 * q) (8 * k))[q + k] ^^^ (d / 2 ^ (8 * k) % 256).toUInt8) := by
 have hl := turned_len l d (8 * q) (8 * k)
 apply List.ext_getElem?
 intro j
 rw [List.getElem?_set]
 by_cases hjl : j < l.length
 ·rw [turned_get _ _ _ _ _ hjl, show 8 * (k + 1) = 8 * k + 8 by omega, low_byte, byte_xor, show 8 * q + 8 * k = 8 * (q + k) by omega, byte_mul _ _ _ (Nat.mod_lt _ (by omega))]
  by_cases he : q + k = j
  ·rw [if_pos he, if_pos he.symm, if_pos (by omega)]
   have h2 := turned_get l d (8 * q) (8 * k) (q + k) (by omega)
   rw [List.getElem?_eq_getElem hj] at h2
   rw [Option.some.inj h2, he, UInt8.xor_assoc]
  ·rw [if_neg he, if_neg (fun h => he h.symm), turned_get _ _ _ _ _ hjl]
   simp
 ·rw [List.getElem?_eq_none (by rw [turned_len]; omega), if_neg (by omega), List.getElem?_eq_none (by rw [turned_len]; omega)]
def turnB (s : ByteArray) (q d : Nat) : ByteArray := ⟨(turned s.data.toList d (8 * q) 32).toArray⟩
theorem turnB_list (s : ByteArray) (q d : Nat) : (turnB s q d).data.toList = turned s.data.toList d (8 * q) 32 := by simp [turnB]
theorem turnB_size (s : ByteArray) (q d : Nat) : (turnB s q d).size = s.size := by rw [← size_list, turnB_list, turned_len, size_list]
theorem turn_bad (z n m : Nat) (s : ByteArray) (q d : Nat) (hs : blockOk z n s = true) (hd : d < 4294967296) (h0 : d ≠ 0) (h4 : 4 ≤ q) (hq : q + 4 ≤ s.size) : blockOk z m (turnB s q d) = false := by
 simp only [blockOk, Bool.and_eq_true, decide_eq_true_eq] at hs
 obtain ⟨h1, h2, _⟩ := hs
 have hlow : lowAt d (8 * q) 32 % 4294967296 = 0 := by
  unfold lowAt
  rw [show 8 * q = 32 + (8 * q - 32) by omega, Nat.pow_add, show (2 : Nat) ^ 32 = 4294967296 from rfl, Nat.mul_left_comm, Nat.mul_mod_right]
 have hb := burst_bad s.data.toList d (8 * q) hd h0 (by rw [size_list]; omega) (by rw [size_list]; omega) h2 (.inl hlow)
 rw [Bool.eq_false_iff]
 intro h
 simp only [blockOk, Bool.and_eq_true, decide_eq_true_eq] at h
 rw [turnB_list] at h
 exact hb h.2.1
theorem byte_xor_word (b : UInt8) (v : Nat) : bits .xor .u8 (b.toNat : Int) ((v : Int) % 256) = ((b ^^^ (v % 256).toUInt8).toNat : Int) := by
 have e : ((v : Int) % 256) = ((v % 256 : Nat) : Int) := by omega
 have hb := b.toNat_lt
 rw [e, u8_xor_nat _ _ hb (by omega), UInt8.toNat_xor]
 congr 2
 simp only [Nat.toUInt8_eq, UInt8.toNat_ofNat']
 omega
set_option maxRecDepth 100000 in
set_option maxHeartbeats 6400000 in
theorem turned_any (s : ByteArray) (at_ : Int) (d q : Nat) (T : ByteArray) (w : World) (h8 : 8 ≤ s.size) (hs : s.size ≤ 1000000) (hd : d < 4294967296) (hq : (q : Int) = 4 + at_ % ((s.size - 7 : Nat) : Int)) (hT : T = turnB s q d) :
  Calls Tryz.prog 34 #[.string s, .int .i64 at_, .int .u32 d] w fun e w' => e = .returned (.string T) ∧ Below w.heap.size w w' := by
 obtain ⟨p, hp⟩ : ∃ p : Nat, (p : Int) = at_ % ((s.size - 7 : Nat) : Int) := ⟨(at_ % ((s.size - 7 : Nat) : Int)).toNat, by have := Int.emod_nonneg at_ (show ((s.size - 7 : Nat) : Int) ≠ 0 by omega); omega⟩
 have hp2 : p + 8 ≤ s.size := by have := Int.emod_lt_of_pos at_ (show (0 : Int) < ((s.size - 7 : Nat) : Int) by omega); omega
 have hqp : q = 4 + p := by omega
 obtain ⟨n7, hn7⟩ : ∃ n7, n7 = s.size - 7 := ⟨_, rfl⟩
 have hcast : ((s.size : Int) - 7) = (n7 : Int) := by omega
 have HC := fun w => pick_any at_ n7 w (by omega) (by omega)
 rw [← hn7] at hp
 rw [← hp] at HC
 have hlt8 : decide ((s.size : Int) < 8) = false := by simp; omega
 have hlt8' : decide (s.size < 8) = false := by simp; omega
 have hcv0 := fun w => run_bytes_of_string (P := Tryz.prog) w 9 102 5 s Tryz.underlying9 Tryz.underlying102 Tryz.underlying5
 have hq4 : (4 : Int) + (p : Int) = (q : Int) := by omega
 have hqs := Lib.hid (show q + 4 ≤ s.size by omega)
 have r0 := MRow.of_bytes w 5 s (grownCap w s.size 0 5)
 have hb0 : Below w.heap.size w (w.drew.alloc (.cells (bytesRow s (grownCap w s.size 0 5)) 5 ((bytesRow s (grownCap w s.size 0 5)).size, (bytesRow s (grownCap w s.size 0 5)).size + 1))) := (Below.refl _ _).drew.alloc (Nat.le_refl _) _
 have R0 := Lib.hid (show MRow (w.alloc (.cells (bytesRow s (grownCap w s.size 0 5)) 5 ((bytesRow s (grownCap w s.size 0 5)).size, (bytesRow s (grownCap w s.size 0 5)).size + 1))).drew w.heap.size s.data.toList from r0)
 have HB := Lib.hid (show Below w.heap.size w (w.alloc (.cells (bytesRow s (grownCap w s.size 0 5)) 5 ((bytesRow s (grownCap w s.size 0 5)).size, (bytesRow s (grownCap w s.size 0 5)).size + 1))).drew from hb0)
 have z7 : n7 ≤ 1000000 := by omega
 have hq9 : q + 4 ≤ s.size := by omega
 have HTT := Lib.hid hT
 clear r0 hb0 hp hp2 hq hqp hd hT h8 hn7
 go_enter Tryz.func34, Tryz.ntmps34
 go_wp2_with fail
 generalize grownCap w s.size 0 5 = cap at *
 obtain ⟨w1, hw1⟩ : ∃ w1, w1 = (w.alloc (.cells (bytesRow s cap) 5 ((bytesRow s cap).size, (bytesRow s cap).size + 1))).drew := ⟨_, rfl⟩
 rw [← hw1] at R0 HB ⊢
 clear hw1 hcv0
 refine (HC _).mono ?_
 rintro e wb ⟨rfl, rfl⟩
 go_wp2_with fail
 refine wp_loop_rounds 5 ?_
 have l0 := turned_len s.data.toList d (8 * q) (8 * 0)
 rw [size_list] at l0
 replace R0 := Lib.hid (show MRow w1 w.heap.size (turned s.data.toList d (8 * q) (8 * 0)) by rw [Nat.mul_zero, turned_zero]; exact R0.out)
 have hj0 : q + 0 < (turned s.data.toList d (8 * q) (8 * 0)).length := by rw [l0]; exact Nat.lt_of_lt_of_le (Nat.add_lt_add_left (by decide) q) hqs.out
 have c0 := R0.out.cell hj0
 have f0 := R0.out.frozen hj0
 have tb0 := turned_byte s.data.toList d q 0 hj0
 have n0 := R0.out.set_ hj0 ((turned s.data.toList d (8 * q) (8 * 0))[q + 0] ^^^ (d / 2 ^ (8 * 0) % 256).toUInt8)
 rw [← tb0] at n0
 obtain ⟨b0, hb0⟩ : ∃ b, b = (turned s.data.toList d (8 * q) (8 * 0))[q + 0] := ⟨_, rfl⟩
 rw [← hb0] at c0 n0
 obtain ⟨e0, he0⟩ : ∃ e : UInt8, e = b0 ^^^ (d / 2 ^ (8 * 0) % 256).toUInt8 := ⟨_, rfl⟩
 rw [← he0] at n0
 have y0 := byte_xor_word b0 (d / 2 ^ (8 * 0))
 rw [← he0] at y0
 have N0 := Lib.hid n0
 clear n0 hj0 tb0 hb0 he0
 simp at y0 c0 f0
 rw [rounds_succ]
 go_wp2_with fail
 obtain ⟨wn0, hwn0⟩ : ∃ x, x = w1.setCell ⟨w.heap.size, q, none⟩ (.int .u8 (e0.toNat : Int)) := ⟨_, rfl⟩
 rw [← hwn0]
 have R1 := Lib.hid (show MRow wn0 w.heap.size _ by rw [hwn0]; exact N0.out)
 have l1 := turned_len s.data.toList d (8 * q) (8 * (0 + 1))
 rw [size_list] at l1
 replace HB := Lib.hid (show Below w.heap.size w wn0 by rw [hwn0]; exact HB.out.setCell (Nat.le_refl _) _)
 clear hwn0 c0 f0 y0 N0
 have hj1 : q + 1 < (turned s.data.toList d (8 * q) (8 * 1)).length := by rw [l1]; exact Nat.lt_of_lt_of_le (Nat.add_lt_add_left (by decide) q) hqs.out
 have c1 := R1.out.cell hj1
 have f1 := R1.out.frozen hj1
 have tb1 := turned_byte s.data.toList d q 1 hj1
 have n1 := R1.out.set_ hj1 ((turned s.data.toList d (8 * q) (8 * 1))[q + 1] ^^^ (d / 2 ^ (8 * 1) % 256).toUInt8)
 rw [← tb1] at n1
 obtain ⟨b1, hb1⟩ : ∃ b, b = (turned s.data.toList d (8 * q) (8 * 1))[q + 1] := ⟨_, rfl⟩
 rw [← hb1] at c1 n1
 obtain ⟨e1, he1⟩ : ∃ e : UInt8, e = b1 ^^^ (d / 2 ^ (8 * 1) % 256).toUInt8 := ⟨_, rfl⟩
 rw [← he1] at n1
 have y1 := byte_xor_word b1 (d / 2 ^ (8 * 1))
 rw [← he1] at y1
 have N1 := Lib.hid n1
 clear n1 hj1 tb1 hb1 he1
 simp at y1 c1 f1
 rw [rounds_succ]
 go_wp2_with fail
 obtain ⟨wn1, hwn1⟩ : ∃ x, x = wn0.setCell ⟨w.heap.size, q + 1, none⟩ (.int .u8 (e1.toNat : Int)) := ⟨_, rfl⟩
 rw [← hwn1]
 have R2 := Lib.hid (show MRow wn1 w.heap.size _ by rw [hwn1]; exact N1.out)
 have l2 := turned_len s.data.toList d (8 * q) (8 * (1 + 1))
 rw [size_list] at l2
 replace HB := Lib.hid (show Below w.heap.size w wn1 by rw [hwn1]; exact HB.out.setCell (Nat.le_refl _) _)
 clear hwn1 c1 f1 y1 N1
 have hj2 : q + 2 < (turned s.data.toList d (8 * q) (8 * 2)).length := by rw [l2]; exact Nat.lt_of_lt_of_le (Nat.add_lt_add_left (by decide) q) hqs.out
 have c2 := R2.out.cell hj2
 have f2 := R2.out.frozen hj2
 have tb2 := turned_byte s.data.toList d q 2 hj2
 have n2 := R2.out.set_ hj2 ((turned s.data.toList d (8 * q) (8 * 2))[q + 2] ^^^ (d / 2 ^ (8 * 2) % 256).toUInt8)
 rw [← tb2] at n2
 obtain ⟨b2, hb2⟩ : ∃ b, b = (turned s.data.toList d (8 * q) (8 * 2))[q + 2] := ⟨_, rfl⟩
 rw [← hb2] at c2 n2
 obtain ⟨e2, he2⟩ : ∃ e : UInt8, e = b2 ^^^ (d / 2 ^ (8 * 2) % 256).toUInt8 := ⟨_, rfl⟩
 rw [← he2] at n2
 have y2 := byte_xor_word b2 (d / 2 ^ (8 * 2))
 rw [← he2] at y2
 have N2 := Lib.hid n2
 clear n2 hj2 tb2 hb2 he2
 simp at y2 c2 f2
 rw [rounds_succ]
 go_wp2_with fail
 obtain ⟨wn2, hwn2⟩ : ∃ x, x = wn1.setCell ⟨w.heap.size, q + 2, none⟩ (.int .u8 (e2.toNat : Int)) := ⟨_, rfl⟩
 rw [← hwn2]
 have R3 := Lib.hid (show MRow wn2 w.heap.size _ by rw [hwn2]; exact N2.out)
 have l3 := turned_len s.data.toList d (8 * q) (8 * (2 + 1))
 rw [size_list] at l3
 replace HB := Lib.hid (show Below w.heap.size w wn2 by rw [hwn2]; exact HB.out.setCell (Nat.le_refl _) _)
 clear hwn2 c2 f2 y2 N2
 have hj3 : q + 3 < (turned s.data.toList d (8 * q) (8 * 3)).length := by rw [l3]; exact Nat.lt_of_lt_of_le (Nat.add_lt_add_left (by decide) q) hqs.out
 have c3 := R3.out.cell hj3
 have f3 := R3.out.frozen hj3
 have tb3 := turned_byte s.data.toList d q 3 hj3
 have n3 := R3.out.set_ hj3 ((turned s.data.toList d (8 * q) (8 * 3))[q + 3] ^^^ (d / 2 ^ (8 * 3) % 256).toUInt8)
 rw [← tb3] at n3
 obtain ⟨b3, hb3⟩ : ∃ b, b = (turned s.data.toList d (8 * q) (8 * 3))[q + 3] := ⟨_, rfl⟩
 rw [← hb3] at c3 n3
 obtain ⟨e3, he3⟩ : ∃ e : UInt8, e = b3 ^^^ (d / 2 ^ (8 * 3) % 256).toUInt8 := ⟨_, rfl⟩
 rw [← he3] at n3
 have y3 := byte_xor_word b3 (d / 2 ^ (8 * 3))
 rw [← he3] at y3
 have N3 := Lib.hid n3
 clear n3 hj3 tb3 hb3 he3
 simp at y3 c3 f3
 rw [rounds_succ]
 go_wp2_with fail
 obtain ⟨wn3, hwn3⟩ : ∃ x, x = wn2.setCell ⟨w.heap.size, q + 3, none⟩ (.int .u8 (e3.toNat : Int)) := ⟨_, rfl⟩
 rw [← hwn3]
 have R4 := Lib.hid (show MRow wn3 w.heap.size _ by rw [hwn3]; exact N3.out)
 have l4 := turned_len s.data.toList d (8 * q) (8 * (3 + 1))
 rw [size_list] at l4
 replace HB := Lib.hid (show Below w.heap.size w wn3 by rw [hwn3]; exact HB.out.setCell (Nat.le_refl _) _)
 clear hwn3 c3 f3 y3 N3
 rw [rounds_succ]
 have hcv := run_string_reads wn3 102 9 5 cap Tryz.underlying102 Tryz.underlying5 Tryz.underlying9 R4.out.reads
 rw [l4] at hcv
 rw [show (⟨(turned s.data.toList d (8 * q) (8 * (3 + 1))).toArray⟩ : ByteArray) = T from HTT.out.symm] at hcv
 go_wp2_with fail
 go_ret
 exact ⟨rfl, HB.out⟩
end Go.Proofs.YtmmjckokjmpfpaaGreat

namespace Go.Proofs.YtmmjckokjmpfpaaGreat
open Go.RowKit
open Go.Lib hiding intOf
attribute [local go_sem ↓] Go.wp_at_zero Go.wp_at_succ

theorem ItemR.read {rd : Nat → Option Pg} {i : It} {v : ByteArray} {ns : List Nat} (h : ItemR rd i v ns) : ∀ x ∈ ns, ∃ p, rd x = some p := by
 rcases h with ⟨_, _, rfl⟩ | ⟨_, _, tx, L, h3, _, h5⟩
 ·simp
 ·intro x hx
  rw [← on_nos (onL_some h3).2.2.2.2.2.2] at hx
  obtain ⟨p, hp, rfl⟩ := List.mem_map.1 hx
  exact ⟨p, h5 p hp⟩
theorem ItemsR.read {rd : Nat → Option Pg} : ∀ {l : List It} {ps : List Pr} {ns : List Nat}, ItemsR rd l ps ns → ∀ x ∈ ns, ∃ p, rd x = some p
 | [], ps, ns, ⟨_, h2⟩, x, hx => by subst h2; cases hx
 | i :: l, ps, ns, ⟨v, n1, p2, n2, h1, h2, h3, h4⟩, x, hx => by
  subst h2
  rcases List.mem_append.1 hx with h | h
  ·exact h3.read x h
  ·exact ItemsR.read h4 x h
theorem ForksR.read {rd : Nat → Option Pg} {T : Nat → List Pr → List Nat → Prop} (hT : ∀ n p1 n1, T n p1 n1 → ∀ x ∈ n1, ∃ p, rd x = some p) : ∀ {F : List Fk} {ps : List Pr} {ns : List Nat}, ForksR T F ps ns → ∀ x ∈ ns, ∃ p, rd x = some p
 | [], ps, ns, ⟨_, h2⟩, x, hx => by subst h2; cases hx
 | b :: F, ps, ns, ⟨p1, p2, n1, n2, h1, h2, h3, h4, h5⟩, x, hx => by
  subst h2
  rcases List.mem_append.1 hx with h | h
  ·exact hT _ _ _ h3 x h
  ·exact ForksR.read hT h5 x h
theorem TreeR.read {rd : Nat → Option Pg} : ∀ {d n : Nat} {ps : List Pr} {ns : List Nat}, TreeR rd d n ps ns → ∀ x ∈ ns, ∃ p, rd x = some p
 | 0, _, _, _, h, _, _ => h.elim
 | d + 1, n, ps, ns, ⟨p, ms, h1, h2, h3⟩, x, hx => by
  subst h2
  rcases List.mem_cons.1 hx with rfl | hx
  ·exact ⟨p, h1⟩
  ·rcases h3 with ⟨_, l, _, _, h6⟩ | ⟨F, _, _, h6⟩
   ·exact h6.read x hx
   ·exact h6.read (fun n p1 n1 ht => TreeR.read ht) x hx
set_option maxRecDepth 100000 in
set_option maxHeartbeats 25600000 in
theorem curot_walk (A : Option Addr) (n c : Nat) (l : List Pr) (which at_ d0 : Int) (w : World) (hl : Prs w w.heap.size A n c l) (_hw : (Lit.int .i64 which).wf = true) (_ha : (Lit.int .i64 at_).wf = true) (hd : (Lit.int .u32 d0).wf = true) :
  Calls Tryz.prog 7 #[.slice A n c, .int .i64 which, .int .i64 at_, .int .u32 d0] w fun e w' => e = .returned (.bool true) ∧ Below w.heap.size w w' := by
 obtain ⟨db, rfl⟩ := Int.eq_ofNat_of_zero_le (lit_u32' hd).1
 have HDd := Lib.hid (show db < 4294967296 by have := (lit_u32' hd).2; omega)
 have HR := Lib.hid hl.1
 have HX := Lib.hid hl.near
 have hnc0 := hl.2.1
 have hn9 := hl.2.2.2.1
 clear hl _hw _ha hd
 have HB := Lib.hid (Below.refl w.heap.size w)
 obtain ⟨m, hm⟩ : ∃ m, m = min n 60 := ⟨_, rfl⟩
 have hmin : min (n : Int) 60 = (m : Int) := by omega
 have hmn : m ≤ n := by omega
 have hm60 : m ≤ 60 := by omega
 have hm0 : (0 : Int) ≤ (m : Int) := by omega
 have hmc : (m : Int) ≤ (c : Int) := by omega
 obtain ⟨X, hX, hXr⟩ := partP_lo A n c m hnc0 hmn
 clear hm
 go_enter Tryz.func7, Tryz.ntmps7
 go_wp2_with fail
 refine (lives12_any _).mono ?_
 rintro e w1 ⟨rfl, hb⟩
 replace HB := Lib.hid (HB.out.trans (hb.mono HB.out.size))
 have HRX := Lib.hid (hXr w1 _ _ ((HR.out.below hb).more hb.size))
 clear hb hXr HR
 go_wp2_with fail
 refine (sorted_any X m c (l.take m) _ HRX.out (by omega)).mono ?_
 rintro e w3 ⟨A3, n3, c3, rfl, hown, hb⟩
 obtain ⟨_, _, hv, hnc, hcm, _⟩ := own_form hown
 cases hv
 replace HB := Lib.hid (HB.out.trans (hb.mono HB.out.size))
 have HR3 := Lib.hid (Reads.of_own hown)
 clear hb hown HRX hX
 obtain ⟨L, hL⟩ : ∃ x, x = sortP (l.take m) := ⟨_, rfl⟩
 have HXL := Lib.hid (show NearP L from fun b hb => HX.out b (List.mem_of_mem_take (sortP_mem (by rw [← hL]; exact hb))))
 have HAs := Lib.hid (show (L.map (·.ky)).Pairwise lessB by rw [hL]; exact sortP_asc _)
 have hLm : L.length ≤ 60 := by rw [hL]; exact Nat.le_trans (sortP_len _) (by rw [List.length_take]; omega)
 rw [← hL] at HR3
 clear hL HX
 have hLn0 := pr_len HR3.out
 have hn30 : n3 ≤ 300000000000000 := by omega
 clear hLm hLn0 hmin hmn hm60 hm0 hmc hnc0 hn9
 go_wp2_with fail
 refine (lightP_any A3 n3 c3 L _ HR3.out hn30 HXL.out).mono ?_
 rintro e w2 ⟨rfl, q, rfl⟩
 replace HB := Lib.hid (below_drewN HB.out q)
 replace HR3 := Lib.hid (HR3.out.drewN q)
 rcases hlp : lightP L with _ | _
 ·go_wp2_with fail
  go_ret
  exact ⟨rfl, HB.out⟩
 obtain ⟨h60', hsm⟩ := lightP_parts hlp
 have HF := Lib.hid (FewP.mk h60' hsm HAs.out)
 clear hlp h60' hsm HAs HXL hn30
 by_cases hdb : db = 0
 ·subst hdb
  go_wp2_with fail
  go_ret
  exact ⟨rfl, HB.out⟩
 have hdz : ((db : Int) == 0) = false := by simp; omega
 have HD0 := Lib.hid hdb
 clear hdb
 have hLn := pr_len HR3.out
 have h60 := HF.out.few
 have HLn := Lib.hid hLn
 have hn3 : n3 ≤ 60 := by omega
 clear hLn h60
 go_wp2_with fail
 refine (laid2_any A3 n3 c3 L _ HR3.out HF.out).mono ?_
 rintro e w4 ⟨hb, ⟨hok, rfl⟩ | ⟨hok, rfl⟩⟩
 ·replace HB := Lib.hid (HB.out.trans (hb.mono HB.out.size))
  clear hb
  go_wp2_with fail
  go_ret
  exact ⟨rfl, HB.out⟩
 replace HB := Lib.hid (HB.out.trans (hb.mono HB.out.size))
 replace HR3 := Lib.hid ((HR3.out.below hb).more hb.size)
 clear hb
 by_cases hnil : L = []
 ·rw [show rootY L = 0 by rw [hnil]; rfl]
  clear hnil
  go_wp2_with fail
  go_ret
  exact ⟨rfl, HB.out⟩
 obtain ⟨_, d, ns, hst⟩ := stands HF.out hnil hok
 obtain ⟨im, him⟩ : ∃ x, x = imY L := ⟨_, rfl⟩
 obtain ⟨r, hr⟩ : ∃ x, x = rootY L := ⟨_, rfl⟩
 rw [← him, ← hr] at hst ⊢
 clear him hr hok hnil
 have HST := Lib.hid hst
 obtain ⟨hr2, hrn⟩ := hst.root
 have hrz : ((r : Int) == 0) = false := by simp; omega
 have hims := hst.size
 have hnl := hst.len
 have hi4 : im.size ≤ 400000 := by omega
 have hr9 : r < 4294967296 := by omega
 clear hst
 obtain ⟨K, hK⟩ : ∃ x, x = ns.length := ⟨_, rfl⟩
 obtain ⟨T, hT⟩ : ∃ x, x = 2 + K := ⟨_, rfl⟩
 have hK1 : 1 ≤ K := by omega
 have hK9 : K ≤ 2600 := by omega
 have u1 : Int.tdiv (im.size : Int) 128 = (T : Int) := by rw [Int.tdiv_eq_ediv_of_nonneg (by omega)]; omega
 have u2 : (T : Int) - 2 = (K : Int) := by omega
 obtain ⟨jj, hjj, hjK⟩ : ∃ j : Nat, which % (K : Int) = (j : Int) ∧ j < K := ⟨(which % (K : Int)).toNat, by have := Int.emod_nonneg which (show (K : Int) ≠ 0 by omega); omega, by have := Int.emod_nonneg which (show (K : Int) ≠ 0 by omega); have := Int.emod_lt_of_pos which (show (0 : Int) < (K : Int) by omega); omega⟩
 have HPk : ∀ w : World, Calls Tryz.prog 33 #[.int .i64 which, .int .i64 (K : Int)] w fun e w' => e = .returned (.int .i64 (jj : Int)) ∧ w = w' := fun w => (pick_any which K w hK1 (by omega)).mono (by rintro e w' ⟨rfl, rfl⟩; exact ⟨by rw [hjj], rfl⟩)
 obtain ⟨wh, hwh⟩ : ∃ x, x = 2 + jj := ⟨_, rfl⟩
 have u3 : 2 + (jj : Int) = (wh : Int) := by omega
 obtain ⟨oz, hwz⟩ : ∃ x, x = wh * 128 := ⟨_, rfl⟩
 obtain ⟨oy, hwy⟩ : ∃ x, x = oz + 128 := ⟨_, rfl⟩
 have v1 : (128 : Int) * (wh : Int) = (oz : Int) := by omega
 have v3 : (oz : Int) + 128 = (oy : Int) := by omega
 have hwys : oy ≤ im.size := by omega
 have v5 : (0 : Int) ≤ (oz : Int) := by omega
 have v6 : (oz : Int) ≤ (oy : Int) := by omega
 have v7 : (oy : Int) ≤ (im.size : Int) := by omega
 have v8 : (oz : Int) ≤ (im.size : Int) := by omega
 have v9 : (0 : Int) ≤ (oy : Int) := by omega
 have hwn : wh ∈ ns := (HST.out.mem wh).2 (by omega)
 obtain ⟨pg, hpg⟩ := HST.out.tree.read wh hwn
 have mok := readAt_ok (z := 128) hpg
 obtain ⟨blk, hblk⟩ : ∃ x, x = blkOf 128 im wh := ⟨_, rfl⟩
 have hblks : blk.size = 128 := by rw [hblk]; unfold blkOf; rw [ByteArray.size_extract]; omega
 obtain ⟨qq, hqq⟩ : ∃ q : Nat, (q : Int) = 4 + at_ % ((121 : Nat) : Int) := ⟨(4 + at_ % ((121 : Nat) : Int)).toNat, by have := Int.emod_nonneg at_ (show ((121 : Nat) : Int) ≠ 0 by decide); omega⟩
 have hqq9 : qq + 4 ≤ 128 := by have := Int.emod_lt_of_pos at_ (show (0 : Int) < ((121 : Nat) : Int) by decide); omega
 have hqq4 : 4 ≤ qq := by have := Int.emod_nonneg at_ (show ((121 : Nat) : Int) ≠ 0 by decide); omega
 obtain ⟨Tn, hTn⟩ : ∃ x, x = turnB blk qq db := ⟨_, rfl⟩
 have hTs : Tn.size = 128 := by rw [hTn, turnB_size, hblks]
 have hTb : blockOk 128 wh Tn = false := by rw [hTn]; exact turn_bad 128 wh wh blk qq db (by rw [hblk]; exact mok) HDd.out HD0.out hqq4 (by rw [hblks]; exact hqq9)
 have HTu : ∀ w : World, Calls Tryz.prog 34 #[.string blk, .int .i64 at_, .int .u32 db] w fun e w' => e = .returned (.string Tn) ∧ Below w.heap.size w w' := fun w => turned_any blk at_ db qq Tn w (by omega) (by omega) HDd.out (by rw [hblks]; exact hqq) hTn
 obtain ⟨bad, hbad⟩ : ∃ x, x = writeB 128 wh Tn im := ⟨_, rfl⟩
 have hrd := readAt_put (z := 128) (c := 2 + ns.length) (w := wh) rfl hims hTs (by omega) hTb
 rw [← hbad] at hrd
 obtain ⟨e1, kk, e2, e3⟩ := HST.out.broken (s := bad) hwn (fun n hn => by have := hrd n; rw [if_neg hn] at this; exact this) (by have := hrd wh; rw [if_pos rfl] at this; exact this)
 have hcat : im.extract 0 oz ++ Tn ++ im.extract oy im.size = bad := by rw [hbad, hwy]; exact wr_sameZ hTs hwz (by omega)
 have hex : im.extract oz oy = blk := by rw [hblk, hwy, hwz]; rfl
 obtain ⟨E1, hE1⟩ : ∃ x, x = im.extract 0 oz := ⟨_, rfl⟩
 obtain ⟨E3, hE3⟩ : ∃ x, x = im.extract oy im.size := ⟨_, rfl⟩
 have hE1s : E1.size = oz := by rw [hE1, ByteArray.size_extract]; omega
 have hE3s : E3.size + oy = im.size := by rw [hE3, ByteArray.size_extract]; omega
 have hbads : bad.size ≤ 400000 := by rw [← hcat, ByteArray.size_append, ByteArray.size_append, hTs, ← hE1, ← hE3]; omega
 rw [← hE1, ← hE3] at hcat
 obtain ⟨E2, hE2⟩ : ∃ x, x = E1 ++ Tn := ⟨_, rfl⟩
 have hc1 : ¬ (9223372036854775807 < E1.size + Tn.size) := by omega
 have hc2 : ¬ (9223372036854775807 < E2.size + E3.size) := by rw [hE2, ByteArray.size_append]; omega
 rw [← hE2] at hcat
 have hX1 := hE1.symm
 have hX2 := hE2.symm
 have hX3 := hE3.symm
 have hN := treeS_len (l := L) (im := bad) (r := r) (by rw [e3, List.length_take]; have := HF.out.few; omega)
 have hA0 := fun w => lall0_any 128 bad r ⟨#[]⟩ w hbads hr9 hN.1
 have hP1 := fun w => cpages_any 128 bad r w hbads hr9
 rw [e1, e3] at hA0
 rw [e1] at hP1
 have HA0 := Lib.hid hA0
 have HP1 := Lib.hid hP1
 have HKk := Lib.hid (show kk < n3 by have := HLn.out; omega)
 have hkn : (kk : Int) < (n3 : Int) := by have := HKk.out; omega
 have HMk := Lib.hid (show kk ≤ maxLen by have := HKk.out; unfold maxLen; omega)
 have HTk := Lib.hid (show (L.take kk).length = kk by rw [List.length_take]; have := HKk.out; have := HLn.out; omega)
 obtain ⟨XL, hXL, hXLr⟩ := partP_lo A3 n3 c3 kk hnc (by have := HKk.out; omega)
 have HXLr := Lib.hid hXLr
 have b_wh : wh ≤ 400000 := by omega
 have b_oz : oz ≤ 400000 := by omega
 have b_oy : oy ≤ 400000 := by omega
 have hT9 : T ≤ 10000 := by omega
 clear HDd HD0 hjj hjK hwh hwz hwy hwys hwn hpg mok hblk hblks hqq hqq9 hqq4 hTn hTs hTb hbad hrd e1 e2 e3 hE1 hE2 hE3 hE1s hE3s hbads hN hA0 hP1 hXLr hims hnl hr2 hrn hK hT hK1 HST
 go_wp2_with fail
 refine (HPk _).mono ?_
 rintro e xd ⟨rfl, rfl⟩
 clear HPk
 go_upto_region 10 with fail
 have hI64 := fun (n : Nat) (h : n ≤ 400000) => i64_nat n (by omega)
 have hW64 := fun (n : Nat) (h : n ≤ 400000) => wrap64_nat n (by omega)
 have i_oz := hI64 oz b_oz
 have i_oy := hI64 oy b_oy
 have w_oz := hW64 oz b_oz
 have w_oy := hW64 oy b_oy
 clear hI64 hW64
 refine wp_region_held_drew (S := fun _ => True) (by kernel_rfl) (trivial) (fun _ => ?_)
 have hHeld : True := trivial
 refine tkA (i := 0) ?_
 try simp only [tkP]
 refine tkA (i := 1) ?_
 try simp only [tkP]
 refine tkA (i := 2) ?_
 try simp only [tkP]
 refine tkA (i := 3) ?_
 try simp only [tkP]
 refine tkA (i := 4) ?_
 try simp only [tkP]
 refine tkA (i := 5) ?_
 try simp only [tkP]
 refine tkA (i := 6) ?_
 try simp only [tkP]
 refine tkA (i := 7) ?_
 try simp only [tkP]
 refine tkA (i := 8) ?_
 try simp only [tkP]
 refine tkA (i := 9) ?_
 try simp only [tkP]
 refine tkA (i := 10) ?_
 try simp only [tkP]
 refine tkA (i := 11) ?_
 try simp only [tkP]
 refine tkA (i := 12) ?_
 try simp only [tkP]
 refine tkA (i := 15) ?_
 try simp only [tkP]
 refine tkA (i := 16) ?_
 try simp only [tkP]
 refine tkA (i := 17) ?_
 try simp only [tkP]
 refine tkA (i := 18) ?_
 try simp only [tkP]
 refine tkA (i := 19) ?_
 try simp only [tkP]
 refine wpAnyH_ready (rs := [13]) (by kernel_rfl) (by simp) ?_
 refine tkC (fun K hK => ?_)
 go_simp
 refine (HTu _).mono ?_
 rintro e w5 ⟨rfl, hb⟩
 refine hK.out _ _ (trivial) (fun hHeld => ?_)
 clear hK K
 try simp only [tkP]
 refine tkA (i := 14) ?_
 try simp only [tkP]
 refine tkA (i := 20) ?_
 try simp only [tkP]
 refine tkA (i := 21) ?_
 try simp only [tkP]
 refine wpAnyH_done (by kernel_rfl) ?_ _
 replace HR3 := Lib.hid ((HR3.out.drew.below hb).more hb.size)
 replace HB := Lib.hid (HB.out.drew.trans (hb.mono (by exact HB.out.size)))
 clear hb hHeld HTu i_oz i_oy w_oz w_oy
 go_wp2_with fail
 refine (HA0.out _).mono ?_
 rintro e w6 ⟨A6, n6, c6, rfl, h6, hb⟩
 have HR6 := Lib.hid h6
 obtain rfl : n6 = kk := by have := pr_len h6; have := HTk.out; omega
 replace HB := Lib.hid (HB.out.trans (hb.mono HB.out.size))
 replace HR3 := Lib.hid ((HR3.out.below hb).more hb.size)
 clear hb h6 HA0
 go_wp2_with fail
 refine (HP1.out _).mono ?_
 rintro e w7 ⟨A7, n7, c7, rfl, _, hb⟩
 replace HB := Lib.hid (HB.out.trans (hb.mono HB.out.size))
 replace HR6 := Lib.hid (HR6.out.below hb)
 have HX7 := Lib.hid (HXLr.out w7 _ _ (HR3.out.below hb))
 clear hb HP1
 go_wp2_with fail
 refine (same12_yes A6 _ c6 XL c3 (L.take n6) _ HR6.out HX7.out HMk.out).mono ?_
 rintro e w8 ⟨rfl, q8, hq⟩
 replace HB := Lib.hid (show Below w.heap.size w w8 by rw [hq]; exact below_drewN HB.out q8)
 clear hq
 go_wp2_with fail
 go_ret
 exact ⟨rfl, HB.out⟩
end Go.Proofs.YtmmjckokjmpfpaaGreat

