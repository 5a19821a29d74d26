/-
  Texts that the main proof rests on, put together: Octet, CrcPlain. No statement is proved here.
-/
import Derived.Test.YtmmjckokjmpfpaaGreatJ1
import Derived.Lib.Endian
set_option linter.unusedVariables false
set_option linter.unusedSimpArgs false
namespace Go.Proofs.YtmmjckokjmpfpaaGreat
open Go.RowKit
theorem infoRd : (Tryz.prog.info? 209).map (fun i => (i.zero, i.size, i.bytes)) = some (some (.agg #[.pointer none, .string ByteArray.empty]), 2, 24) := by kernel_rfl
theorem infoU8 : (Tryz.prog.info? 5).map (fun i => (i.zero, i.size, i.bytes)) = some (some (.int .u8 0), 1, 1) := by kernel_rfl

def IsRd (w : World) (g : Nat) (s : ByteArray) : Prop := Blk w g 209 #[.pointer (some ⟨g, 0, none⟩), .string s]

theorem valid_yes {w : World} {g : Nat} {s : ByteArray} (h : IsRd w g s) :
  Calls Tryz.prog 160 #[.pointer (some ⟨g, 0, none⟩)] w fun e w' => e = .returned (.bool true) ∧ w = w' := by
 obtain ⟨i0, hi0, hz0, hz1, hz2⟩ := info_parts infoRd
 have c0 := Blk.cell h 0
 simp at c0
 have heq := run_eql_ptr_same w ⟨g, 0, none⟩ Tryz.underlying189 hi0
 go_enter Tryz.func160, Tryz.ntmps160
 go_wp2
 go_ret
 exact ⟨rfl, rfl⟩

theorem width_any (n : Int) (w : World) :
  Calls Tryz.prog 161 #[.int .i64 n] w fun e w' => e = .returned (.bool (decide (1 ≤ n) && decide (n ≤ 8))) ∧ w = w' := by
 by_cases h1 : 1 ≤ n <;> by_cases h2 : n ≤ 8 <;> go_enter Tryz.func161, Tryz.ntmps161 <;> go_wp2 <;> go_ret <;> exact ⟨by simp [h1, h2], rfl⟩

theorem new_any (s : ByteArray) (w : World) :
  Calls Tryz.prog 120 #[.string s] w fun e w' => e = .returned (.pointer (some ⟨w.heap.size, 0, none⟩)) ∧ w' = w.alloc (.cells #[.pointer (some ⟨w.heap.size, 0, none⟩), .string s] 209) := by
 go_enter Tryz.func120, Tryz.ntmps120
 go_wp2
 go_ret
 exact ⟨rfl, rfl⟩
open Go.Lib
theorem getElem_toList (s : ByteArray) (k : Nat) (h : k < s.size) : s.data.toList[k]'(by simpa using h) = s[k] := rfl
theorem number_any (s : ByteArray) (w : World) (hs : s.size ≤ 8) :
  Calls Tryz.prog 163 #[.string s] w fun e w' => e = .returned (.int .u64 (leNat s.data.toList)) ∧ w = w' := by
 go_enter Tryz.func163, Tryz.ntmps163
 go_wp2
 go_loop [3, 7] (fun n i => ∃ k : Nat, k ≤ s.size ∧ i = .int .i64 k ∧ n = .int .u64 (leNat (s.data.toList.take k))) (fun _ i => s.size - (RowKit.intOf i).toNat)
 case atStart => exact ⟨0, Nat.zero_le _, rfl, rfl⟩
 case round =>
  obtain ⟨k, hk, rfl, rfl⟩ := hrel
  by_cases hlt : k < s.size
  ·go_wp2
   go_round
   case rel =>
    refine ⟨k + 1, by omega, by go_num, ?_⟩
    have hl : (s.data.toList.take k).length = k := by simp; omega
    have h1 := leNat_lt (s.data.toList.take k)
    have h2 := leNat_snoc (s.data.toList.take k) s[k]
    rw [hl] at h1 h2
    rw [or_step _ k s[k] (by omega) h1, take_snoc _ k (by simpa using hlt), ← h2]
    rfl
   case measure => simp [RowKit.intOf]; omega
  ·go_wp2
   go_ret
   refine ⟨?_, rfl⟩
   rw [List.take_of_length_le (by simp; omega)]; rfl
theorem zero_any (s : ByteArray) (w : World) (hs : s.size ≤ maxLen) :
  Calls Tryz.prog 137 #[.string s] w fun e w' => e = .returned (.bool (zeros s.data.toList)) ∧ w = w' := by
 unfold maxLen at hs
 go_enter Tryz.func137, Tryz.ntmps137
 go_wp2
 go_loop [3, 6] (fun _ i => ∃ k : Nat, k ≤ s.size ∧ i = .int .i64 k ∧ Hid (zeros (s.data.toList.take k) = true)) (fun _ i => s.size - (RowKit.intOf i).toNat)
 case atStart => exact ⟨0, Nat.zero_le _, rfl, rfl⟩
 case round =>
  obtain ⟨k, hk, rfl, HZ⟩ := hrel
  by_cases hlt : k < s.size
  ·go_wp2
   ·have hne : ((s[k].toNat : Int) != 0) = true := by assumption
    go_ret
    refine ⟨?_, rfl⟩
    have hk' : k < s.data.toList.length := by simpa using hlt
    rw [zeros_at hk' (fun h => by rw [getElem_toList s k hlt] at h; simp [h] at hne)]; rfl
   ·have hne : ((s[k].toNat : Int) != 0) = false := by assumption
    go_round
    case rel =>
     refine ⟨k + 1, by omega, by go_num, ?_⟩
     show zeros _ = true
     rw [take_snoc _ k (by simpa using hlt), zeros_snoc, HZ.out]
     have h0 : s[k].toNat = 0 := by simpa using hne
     rw [getElem_toList]
     simp
     exact UInt8.toNat_inj.1 (by simpa using h0)
    case measure => simp [RowKit.intOf]; omega
  ·go_wp2
   go_ret
   refine ⟨?_, rfl⟩
   have := HZ.out
   rw [List.take_of_length_le (by simp; omega)] at this
   rw [this]; rfl
theorem oneCell_one {u : Value} (h : u.oneCell' = true) : ∀ v ∈ [u], v.oneCell' = true := by
 intro v hv; simp at hv; subst hv; exact h
theorem reads_new (w : World) (cs : Array Value) (t : TypeId) (fr : Nat × Nat) : Reads (w.alloc (.cells cs t fr)) (w.heap.size + 1) 1 (some ⟨w.heap.size, 0, none⟩) cs.size cs.toList := by
 refine ⟨by simp, fun _ => ⟨_, rfl, Nat.lt_succ_self _, fun j u hu => ?_⟩⟩
 have e : (⟨w.heap.size, 0, none⟩ : Addr).add j = ⟨w.heap.size, j, none⟩ := by unfold Addr.add; split <;> simp_all
 rw [e, World.cell?_alloc_mark]
 simpa using hu
theorem byte_cell (num j : Nat) : [Value.int .u8 ((num : Int) / 2 ^ (8 * j) % 256)] = bcells [(num / 2 ^ (8 * j) % 256).toUInt8] := by
 simp [bcells]
theorem put_yes (A : Option Addr) (n c num k : Nat) (l : List UInt8) (w : World) (hr : Reads w w.heap.size 1 A n (bcells l)) (hn : n + 8 ≤ 140737488355328) (h1 : 1 ≤ k) (h2 : k ≤ 8) :
  Calls Tryz.prog 166 #[.slice A n c, .int .u64 num, .int .i64 k] w fun e w' => ∃ v, e = .returned v ∧ w'.ownsRow w.heap.size 5 1 v (n + k) (bcells (l ++ leBytes k num)) ∧ Below w.heap.size w w' := by
 obtain ⟨i0, hi0, hz0, hz1, hz2⟩ := info_parts infoU8
 have h1' : (1 : Int) ≤ k := by omega
 have h2' : (k : Int) ≤ 8 := by omega
 have hb : (decide ((1 : Int) ≤ k) && decide ((k : Int) ≤ 8)) = true := by simp; omega
 go_enter Tryz.func166, Tryz.ntmps166
 go_wp2_with (first
  | (go_at_call 161; refine (width_any _ _).mono ?_; rintro e w' ⟨rfl, rfl⟩)
  | (at_make; refine wpList_make_own _ rfl _ _ 102 rfl w.heap.size 5 i0 _ 1 Tryz.underlying102 hi0 hz0 hz1 _ _ _ (n + k) rfl rfl (by omega) (by rw [hz2]; omega) (by unfold maxLen; omega) (Nat.le_refl _) ?_; intro w1 hown1 hg1)
  | (at_builtin; refine wpList_append_any _ rfl (.tmp 17) (.tmp 18) _ rfl w.heap.size 5 i0 _ 1 1 Tryz.underlying102 hi0 hz0 hz1 hz2 rfl (by omega) _ 0 [] rfl hown1 w.heap.size A n c _ rfl (hr.below ((Below.refl _ _).grown hg1 (Nat.le_refl _) (by simp))) (bcells_one _) (by unfold maxLen; omega) (by omega) hg1.size ?_; intro v2 w2 hown2 hg2 hat2))
 have hb2 : Below w.heap.size w w2 := ((Below.refl _ _).grown hg1 (Nat.le_refl _) (by simp)).grown hg2 hg1.size (by rintro g ⟨⟩; exact Nat.le_refl _)
 clear hg1 hg2 hown1 hat2
 go_loopw [7, 21] (fun v i wr => ∃ j : Nat, j ≤ k ∧ i = .int .i64 j ∧ wr.ownsRow w.heap.size 5 1 v (n + j) (bcells (l ++ leBytes j num)) ∧ Below w.heap.size w wr) (fun _ i _ => k - (RowKit.intOf i).toNat)
 case atStart => exact ⟨0, Nat.zero_le _, rfl, by simpa [leBytes] using hown2, hb2⟩
 case round =>
  obtain ⟨j, hj, rfl, hown, hbr⟩ := hrel
  by_cases hlt : j < k
  ·go_wp2_with (first
    | (at_builtin; refine wpList_append_any _ rfl (.tmp 24) (.tmp 30) _ rfl w.heap.size 5 i0 _ 1 1 Tryz.underlying102 hi0 hz0 hz1 hz2 rfl (by omega) _ (n + j) _ rfl (hown.alloc _) (wr.heap.size + 1) (some ⟨wr.heap.size, 0, none⟩) 1 1 [Value.int .u8 ((num : Int) / 2 ^ (8 * j) % 256)] rfl (reads_new _ _ _ _) (oneCell_one rfl) (by unfold maxLen; omega) (by omega) (by have := hbr.size; simp; omega) ?_; intro v3 w3 hown3 hg3 hat3))
   go_roundw
   case rel =>
    refine ⟨j + 1, by omega, by go_num, ?_, ?_⟩
    ·rw [leBytes_snoc, ← List.append_assoc, bcells_append, ← byte_cell]
     exact hown3
    ·exact (hbr.alloc hbr.size _).grown hg3 (by have := hbr.size; simp; omega) (fun g hg => (hown.lt g hg).1)
   case measure => simp [RowKit.intOf]; omega
  ·go_wp2
   go_ret
   have : j = k := by omega
   subst this
   exact ⟨_, rfl, hown, hbr⟩


theorem bytes_more {w : World} {g : Nat} {s : ByteArray} (h : IsRd w g s) (n : Int) (hn : (s.size : Int) < n) :
  Calls Tryz.prog 162 #[.pointer (some ⟨g, 0, none⟩), .int .i64 n] w fun e w' => e = .returned (.tuple #[.string ⟨#[]⟩, .int .i64 7]) ∧ w = w' := by
 have c1 := Blk.cell h 1
 simp at c1
 have h0 : ¬ n < 0 := by omega
 go_enter Tryz.func162, Tryz.ntmps162
 go_wp2_with (go_at_call 160; refine (valid_yes h).mono ?_; rintro e w' ⟨rfl, rfl⟩)
 go_ret2
 exact ⟨rfl, rfl⟩
theorem bytes_ok {w : World} {g : Nat} {s : ByteArray} (h : IsRd w g s) (n : Nat) (hn : n ≤ s.size)  :
  Calls Tryz.prog 162 #[.pointer (some ⟨g, 0, none⟩), .int .i64 n] w fun e w' => e = .returned (.tuple #[.string (s.extract 0 n), .int .i64 0]) ∧ w' = w.setCell ⟨g, 1, none⟩ (.string (s.extract n s.size)) := by
 have c1 := Blk.cell h 1
 simp at c1
 have f1 := Blk.frozen h 1
 go_enter Tryz.func162, Tryz.ntmps162
 go_wp2_with (go_at_call 160; refine (valid_yes h).mono ?_; rintro e w' ⟨rfl, rfl⟩)
 go_ret2
 exact ⟨rfl, rfl⟩
theorem rest_any {w : World} {g : Nat} {s : ByteArray} (h : IsRd w g s) :
  Calls Tryz.prog 138 #[.pointer (some ⟨g, 0, none⟩)] w fun e w' => e = .returned (.string s) ∧ w = w' := by
 have c1 := Blk.cell h 1
 simp at c1
 go_enter Tryz.func138, Tryz.ntmps138
 go_wp2_with (go_at_call 160; refine (valid_yes h).mono ?_; rintro e w' ⟨rfl, rfl⟩)
 go_ret
 exact ⟨rfl, rfl⟩
theorem number_more {w : World} {g : Nat} {s : ByteArray} (h : IsRd w g s) (n : Int) (h1 : 1 ≤ n) (h2 : n ≤ 8) (hn : (s.size : Int) < n) :
  Calls Tryz.prog 139 #[.pointer (some ⟨g, 0, none⟩), .int .i64 n] w fun e w' => e = .returned (.tuple #[.int .u64 0, .int .i64 7]) ∧ w = w' := by
 have hb : (decide ((1 : Int) ≤ n) && decide (n ≤ 8)) = true := by simp; omega
 go_enter Tryz.func139, Tryz.ntmps139
 go_wp2_with (first
  | (go_at_call 160; refine (valid_yes h).mono ?_; rintro e w' ⟨rfl, rfl⟩)
  | (go_at_call 161; refine (width_any _ _).mono ?_; rw [hb]; rintro e w' ⟨rfl, rfl⟩)
  | (go_at_call 162; refine (bytes_more h _ hn).mono ?_; rintro e w' ⟨rfl, rfl⟩))
 go_ret2
 exact ⟨rfl, rfl⟩
theorem number_ok {w : World} {g : Nat} {s : ByteArray} (h : IsRd w g s) (n : Nat) (h1 : 1 ≤ n) (h2 : n ≤ 8) (hn : n ≤ s.size) :
  Calls Tryz.prog 139 #[.pointer (some ⟨g, 0, none⟩), .int .i64 n] w fun e w' => e = .returned (.tuple #[.int .u64 (leNat (s.data.toList.take n)), .int .i64 0]) ∧ w' = w.setCell ⟨g, 1, none⟩ (.string (s.extract n s.size)) := by
 have hb : (decide ((1 : Int) ≤ n) && decide ((n : Int) ≤ 8)) = true := by simp; omega
 have hsz : (s.extract 0 n).size ≤ 8 := by simp; omega
 have hdat : (s.extract 0 n).data.toList = s.data.toList.take n := by simp
 go_enter Tryz.func139, Tryz.ntmps139
 go_wp2_with (first
  | (go_at_call 160; refine (valid_yes h).mono ?_; rintro e w' ⟨rfl, rfl⟩)
  | (go_at_call 161; refine (width_any _ _).mono ?_; rw [hb]; rintro e w' ⟨rfl, rfl⟩)
  | (go_at_call 162; refine (bytes_ok h n hn).mono ?_; rintro e w' ⟨rfl, rfl⟩)
  | (go_at_call 163; refine (number_any _ _ hsz).mono ?_; rw [hdat]; rintro e w' ⟨rfl, rfl⟩))
 go_ret2
 exact ⟨rfl, rfl⟩
/-! The same, where the world behind is told by what it is good for: only the reader's block has turned. -/
theorem IsRd.stored {w : World} {g : Nat} {s : ByteArray} (h : IsRd w g s) (s' : ByteArray) : IsRd (w.setCell ⟨g, 1, none⟩ (.string s')) g s' ∧ w.grownBy (w.setCell ⟨g, 1, none⟩ (.string s')) (some g) := by
 refine ⟨Blk.set_ h 1 _, rfl, rfl, rfl, by simp [World.setCell], fun k _ hne => Below.heap_setCell _ _ _ _ (fun e => hne (by rw [e]))⟩
theorem bytes_ok' {w : World} {g : Nat} {s : ByteArray} (h : IsRd w g s) (n : Nat) (hn : n ≤ s.size) :
  Calls Tryz.prog 162 #[.pointer (some ⟨g, 0, none⟩), .int .i64 n] w fun e w' => e = .returned (.tuple #[.string (s.extract 0 n), .int .i64 0]) ∧ IsRd w' g (s.extract n s.size) ∧ w.grownBy w' (some g) :=
 (bytes_ok h n hn).mono fun _ _ ⟨he, hw⟩ => ⟨he, by subst hw; exact h.stored _⟩
theorem number_ok' {w : World} {g : Nat} {s : ByteArray} (h : IsRd w g s) (n : Nat) (h1 : 1 ≤ n) (h2 : n ≤ 8) (hn : n ≤ s.size) :
  Calls Tryz.prog 139 #[.pointer (some ⟨g, 0, none⟩), .int .i64 n] w fun e w' => e = .returned (.tuple #[.int .u64 (leNat (s.data.toList.take n)), .int .i64 0]) ∧ IsRd w' g (s.extract n s.size) ∧ w.grownBy w' (some g) :=
 (number_ok h n h1 h2 hn).mono fun _ _ ⟨he, hw⟩ => ⟨he, by subst hw; exact h.stored _⟩
theorem new_any' (s : ByteArray) (w : World) :
  Calls Tryz.prog 120 #[.string s] w fun e w' => e = .returned (.pointer (some ⟨w.heap.size, 0, none⟩)) ∧ IsRd w' w.heap.size s ∧ Below w.heap.size w w' ∧ w.heap.size < w'.heap.size :=
 (new_any s w).mono fun _ _ ⟨he, hw⟩ => ⟨he, by subst hw; exact ⟨Blk.new _ _ _, (Below.refl _ _).alloc (Nat.le_refl _) _, by simp⟩⟩
end Go.Proofs.YtmmjckokjmpfpaaGreat

namespace Go.Proofs.YtmmjckokjmpfpaaGreat
open Go.Lib

def st (n : Nat) : Nat := (n >>> 1) ^^^ (if n % 2 = 1 then 0x82f63b78 else 0)
def stn : Nat → Nat → Nat
 | 0, n => n
 | k + 1, n => stn k (st n)

theorem st_xor (a b : Nat) : st (a ^^^ b) = st a ^^^ st b := by
 unfold st
 rw [Nat.shiftRight_xor_distrib]
 have h : (a ^^^ b) % 2 = (a % 2 + b % 2) % 2 := by
  have := @Nat.xor_mod_two_eq_one a b
  rcases Nat.mod_two_eq_zero_or_one a with ha | ha <;> rcases Nat.mod_two_eq_zero_or_one b with hb | hb <;> rcases Nat.mod_two_eq_zero_or_one (a ^^^ b) with hx | hx <;> simp_all
 rw [h]
 rcases Nat.mod_two_eq_zero_or_one a with ha | ha <;> rcases Nat.mod_two_eq_zero_or_one b with hb | hb <;> simp [ha, hb]
 ·rw [Nat.xor_assoc]
 ·rw [Nat.xor_assoc, Nat.xor_assoc, Nat.xor_comm (b >>> 1)]
 ·generalize 2197175160 = p
  rw [Nat.xor_assoc, ← Nat.xor_assoc p, Nat.xor_comm p, Nat.xor_assoc (b >>> 1), Nat.xor_self, Nat.xor_zero]
theorem stn_xor : ∀ (k a b : Nat), stn k (a ^^^ b) = stn k a ^^^ stn k b
 | 0, _, _ => rfl
 | k + 1, a, b => by rw [stn, st_xor, stn_xor k]; rfl
theorem stn_add : ∀ (j k n : Nat), stn (j + k) n = stn k (stn j n)
 | 0, k, n => by rw [Nat.zero_add]; rfl
 | j + 1, k, n => by rw [show j + 1 + k = j + k + 1 by omega, stn, stn_add j]; rfl
theorem st_double (n : Nat) : st (n * 2) = n := by
 unfold st
 rw [if_neg (by omega), Nat.xor_zero, Nat.shiftRight_eq_div_pow]
 omega
theorem stn_shift : ∀ (k n : Nat), stn k (n * 2 ^ k) = n
 | 0, n => by simp [stn]
 | k + 1, n => by rw [stn, Nat.pow_succ, ← Nat.mul_assoc, st_double, stn_shift k]
theorem st_lt {n : Nat} (h : n < 4294967296) : st n < 4294967296 := by
 unfold st
 have h1 : n >>> 1 < 2 ^ 32 := by rw [Nat.shiftRight_eq_div_pow]; omega
 exact Nat.xor_lt_two_pow (n := 32) h1 (by split <;> decide)
theorem stn_lt : ∀ (k : Nat) {n : Nat}, n < 4294967296 → stn k n < 4294967296
 | 0, _, h => h
 | k + 1, _, h => stn_lt k (st_lt h)
theorem xor_zero {x y : Nat} (h : x ^^^ y = 0) : x = y := by
 have := congrArg (· ^^^ y) h
 simpa [Nat.xor_assoc] using this
theorem st_ne {n : Nat} (h : n < 4294967296) (h0 : n ≠ 0) : st n ≠ 0 := by
 unfold st
 intro he
 have he := xor_zero he
 rw [Nat.shiftRight_eq_div_pow] at he
 split at he <;> omega
theorem stn_ne : ∀ (k : Nat) {n : Nat}, n < 4294967296 → n ≠ 0 → stn k n ≠ 0
 | 0, _, _, h0 => h0
 | k + 1, _, h, h0 => stn_ne k (st_lt h) (st_ne h h0)

def upd (n : Nat) (b : UInt8) : Nat := stn 8 (n ^^^ b.toNat)
def run (n : Nat) (l : List UInt8) : Nat := l.foldl upd n

theorem low_split (n : Nat) : n = (n >>> 8) * 2 ^ 8 ^^^ n % 256 := by
 have h1 : (n >>> 8) * 2 ^ 8 = (n / 256) <<< 8 := by rw [Nat.shiftRight_eq_div_pow, Nat.shiftLeft_eq]
 have h2 : (n / 256) <<< 8 ^^^ n % 256 = (n / 256) <<< 8 ||| n % 256 := by
  apply Nat.eq_of_testBit_eq
  intro i
  simp only [Nat.testBit_xor, Nat.testBit_or, Nat.testBit_shiftLeft]
  by_cases hi : 8 ≤ i
  ·have : (n % 256).testBit i = false := Nat.testBit_lt_two_pow (Nat.lt_of_lt_of_le (Nat.mod_lt _ (by omega)) (by rw [show 256 = 2 ^ 8 by rfl]; exact Nat.pow_le_pow_right (by omega) hi))
   simp [this]
  ·simp [hi]
 rw [h1, h2, ← Nat.shiftLeft_add_eq_or_of_lt (show n % 256 < 2 ^ 8 by omega), Nat.shiftLeft_eq]
 omega
theorem stn8 (n : Nat) : stn 8 n = (n >>> 8) ^^^ stn 8 (n % 256) := by
 have h := low_split n
 have h2 : stn 8 n = stn 8 ((n >>> 8) * 2 ^ 8 ^^^ n % 256) := by rw [← h]
 rw [h2, stn_xor, stn_shift]
theorem upd_eq (n : Nat) (b : UInt8) : upd n b = (n >>> 8) ^^^ stn 8 ((n ^^^ b.toNat) % 256) := by
 unfold upd
 rw [stn8, Nat.shiftRight_xor_distrib]
 have hb : b.toNat >>> 8 = 0 := by rw [Nat.shiftRight_eq_div_pow]; have := b.toNat_lt; omega
 rw [hb, Nat.xor_zero]
theorem upd_lt {n : Nat} (b : UInt8) (h : n < 4294967296) : upd n b < 4294967296 :=
 stn_lt 8 (Nat.xor_lt_two_pow (n := 32) h (by have := b.toNat_lt; omega))
theorem run_lt : ∀ (l : List UInt8) {n : Nat}, n < 4294967296 → run n l < 4294967296
 | [], _, h => h
 | b :: l, _, h => run_lt l (upd_lt b h)
theorem run_snoc (n : Nat) (l : List UInt8) (b : UInt8) : run n (l ++ [b]) = upd (run n l) b := by simp [run]

theorem run_xor : ∀ (l m : List UInt8) (a b : Nat), l.length = m.length → run a l ^^^ run b m = run (a ^^^ b) (List.zipWith (· ^^^ ·) l m)
 | [], [], _, _, _ => rfl
 | [], _ :: _, _, _, h => by simp at h
 | _ :: _, [], _, _, h => by simp at h
 | x :: l, y :: m, a, b, h => by
  have ih := run_xor l m (upd a x) (upd b y) (by simpa using h)
  have e : upd a x ^^^ upd b y = upd (a ^^^ b) (x ^^^ y) := by
   unfold upd
   rw [← stn_xor, UInt8.toNat_xor]
   congr 1
   rw [Nat.xor_assoc, ← Nat.xor_assoc x.toNat, Nat.xor_comm x.toNat b, Nat.xor_assoc b, ← Nat.xor_assoc a b]
  show run (upd a x) l ^^^ run (upd b y) m = run (upd (a ^^^ b) (x ^^^ y)) (List.zipWith (· ^^^ ·) l m)
  rw [ih, e]

theorem run_leBytes : ∀ (n a v : Nat), v < 2 ^ (8 * n) → run a (leBytes n v) = stn (8 * n) (a ^^^ v)
 | 0, a, v, h => by
  have : v = 0 := by simpa using h
  subst this
  simp [leBytes, run, stn]
 | n + 1, a, v, h => by
  rw [leBytes]
  show run (upd a _) (leBytes n (v / 256)) = _
  have hv : v / 256 < 2 ^ (8 * n) := by
   rw [show 8 * (n + 1) = 8 * n + 8 by omega, Nat.pow_add] at h
   omega
  rw [run_leBytes n _ _ hv, show 8 * (n + 1) = 8 + 8 * n by omega, stn_add]
  congr 1
  unfold upd
  rw [toUInt8_mod]
  have e := low_split v
  have e2 : v >>> 8 = v / 256 := by rw [Nat.shiftRight_eq_div_pow]
  rw [e2] at e
  have e3 : a ^^^ v = (v / 256 * 2 ^ 8) ^^^ (a ^^^ v % 256) := by
   have h3 : a ^^^ v = a ^^^ ((v / 256 * 2 ^ 8) ^^^ v % 256) := by rw [← e]
   rw [h3, ← Nat.xor_assoc, Nat.xor_comm a, Nat.xor_assoc]
  rw [e3, stn_xor 8 (v / 256 * 2 ^ 8), stn_shift, Nat.xor_comm]

theorem burst (n w i : Nat) (h0 : w ≠ 0) (hw : w < 4294967296) (hi : i ≤ 8 * n) (h : w * 2 ^ i < 2 ^ (8 * n)) : run 0 (leBytes n (w * 2 ^ i)) ≠ 0 := by
 rw [run_leBytes n 0 _ h, Nat.zero_xor, show 8 * n = i + (8 * n - i) by omega, stn_add, stn_shift]
 exact stn_ne _ hw h0
theorem run_ne {l m : List UInt8} (a n w i : Nat) (hl : l.length = m.length) (h0 : w ≠ 0) (hw : w < 4294967296) (hi : i ≤ 8 * n) (h : w * 2 ^ i < 2 ^ (8 * n))
  (hx : List.zipWith (· ^^^ ·) l m = leBytes n (w * 2 ^ i)) : run a l ≠ run a m := by
 intro he
 have := run_xor l m a a hl
 rw [he, Nat.xor_self, Nat.xor_self, hx] at this
 exact burst n w i h0 hw hi h this.symm

/-! Bits of byte rows. -/
theorem leBytes_len2 : ∀ (k v : Nat), (leBytes k v).length = k
 | 0, _ => rfl
 | k + 1, v => by simp [leBytes, leBytes_len2 k]
theorem leBytes_get : ∀ (n v j : Nat), j < n → (leBytes n v)[j]? = some (v / 2 ^ (8 * j) % 256).toUInt8
 | 0, _, _, h => by omega
 | n + 1, v, 0, _ => by simp [leBytes]
 | n + 1, v, j + 1, h => by
  rw [leBytes, List.getElem?_cons_succ, leBytes_get n _ j (by omega), Nat.div_div_eq_div_mul, show 8 * (j + 1) = 8 + 8 * j by omega, Nat.pow_add]
theorem byte_xor (a b j : Nat) : ((a ^^^ b) / 2 ^ (8 * j) % 256).toUInt8 = (a / 2 ^ (8 * j) % 256).toUInt8 ^^^ (b / 2 ^ (8 * j) % 256).toUInt8 := by
 rw [← UInt8.toNat_inj, UInt8.toNat_xor]
 simp only [Nat.toUInt8_eq, UInt8.toNat_ofNat']
 rw [← Nat.shiftRight_eq_div_pow, ← Nat.shiftRight_eq_div_pow, ← Nat.shiftRight_eq_div_pow, Nat.shiftRight_xor_distrib]
 simp only [show (256 : Nat) = 2 ^ 8 by rfl, Nat.mod_mod, Nat.xor_mod_two_pow]
def lowAt (b p i : Nat) : Nat := (b % 2 ^ i) * 2 ^ p
def turned (l : List UInt8) (b p i : Nat) : List UInt8 := List.zipWith (· ^^^ ·) l (leBytes l.length (lowAt b p i))
theorem turned_len (l : List UInt8) (b p i : Nat) : (turned l b p i).length = l.length := by simp [turned, leBytes_len2]
theorem turned_zero (l : List UInt8) (b p : Nat) : turned l b p 0 = l := by
 apply List.ext_getElem?
 intro j
 unfold turned
 rw [List.getElem?_zipWith]
 by_cases h : j < l.length
 ·rw [leBytes_get _ _ _ h, List.getElem?_eq_getElem h]
  simp [lowAt, Nat.mod_one]
 ·rw [List.getElem?_eq_none (by omega : l.length ≤ j)]
end Go.Proofs.YtmmjckokjmpfpaaGreat

