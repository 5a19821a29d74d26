/-
  Texts that the main proof rests on, put together: CrcPlain, Crc, Good, DevPlain, KitLaw, Frame. No statement is proved here.
-/
import Derived.Lib.Endian
import Derived.Test.YtmmjckokjmpfpaaGreatJ1
import Derived.Deep.WholeRow
import Derived.Lib.Strings
import Derived.Deep.DrawnRows
set_option linter.unusedVariables false
set_option linter.unusedSimpArgs false
namespace Go.Proofs.YtmmjckokjmpfpaaGreat
open Go.Lib

def st (n : Nat) : Nat := (n >>> 1) ^^^ (if n % 2 = 1 then 0x82f63b78 else 0)
def stn : Nat → Nat → Nat
 | 0, n => n
 | k + 1, n => stn k (st n)

theorem st_xor (a b : Nat) : st (a ^^^ b) = st a ^^^ st b := by
 unfold st
 rw [Nat.shiftRight_xor_distrib]
 have h : (a ^^^ b) % 2 = (a % 2 + b % 2) % 2 := by
  have := @Nat.xor_mod_two_eq_one a b
  rcases Nat.mod_two_eq_zero_or_one a with ha | ha <;> rcases Nat.mod_two_eq_zero_or_one b with hb | hb <;> rcases Nat.mod_two_eq_zero_or_one (a ^^^ b) with hx | hx <;> simp_all
 rw [h]
 rcases Nat.mod_two_eq_zero_or_one a with ha | ha <;> rcases Nat.mod_two_eq_zero_or_one b with hb | hb <;> simp [ha, hb]
 ·rw [Nat.xor_assoc]
 ·rw [Nat.xor_assoc, Nat.xor_assoc, Nat.xor_comm (b >>> 1)]
 ·generalize 2197175160 = p
  rw [Nat.xor_assoc, ← Nat.xor_assoc p, Nat.xor_comm p, Nat.xor_assoc (b >>> 1), Nat.xor_self, Nat.xor_zero]
theorem stn_xor : ∀ (k a b : Nat), stn k (a ^^^ b) = stn k a ^^^ stn k b
 | 0, _, _ => rfl
 | k + 1, a, b => by rw [stn, st_xor, stn_xor k]; rfl
theorem st_double (n : Nat) : st (n * 2) = n := by
 unfold st
 rw [if_neg (by omega), Nat.xor_zero, Nat.shiftRight_eq_div_pow]
 omega
theorem stn_shift : ∀ (k n : Nat), stn k (n * 2 ^ k) = n
 | 0, n => by simp [stn]
 | k + 1, n => by rw [stn, Nat.pow_succ, ← Nat.mul_assoc, st_double, stn_shift k]
theorem st_lt {n : Nat} (h : n < 4294967296) : st n < 4294967296 := by
 unfold st
 have h1 : n >>> 1 < 2 ^ 32 := by rw [Nat.shiftRight_eq_div_pow]; omega
 exact Nat.xor_lt_two_pow (n := 32) h1 (by split <;> decide)
theorem stn_lt : ∀ (k : Nat) {n : Nat}, n < 4294967296 → stn k n < 4294967296
 | 0, _, h => h
 | k + 1, _, h => stn_lt k (st_lt h)
def upd (n : Nat) (b : UInt8) : Nat := stn 8 (n ^^^ b.toNat)
def run (n : Nat) (l : List UInt8) : Nat := l.foldl upd n

theorem low_split (n : Nat) : n = (n >>> 8) * 2 ^ 8 ^^^ n % 256 := by
 have h1 : (n >>> 8) * 2 ^ 8 = (n / 256) <<< 8 := by rw [Nat.shiftRight_eq_div_pow, Nat.shiftLeft_eq]
 have h2 : (n / 256) <<< 8 ^^^ n % 256 = (n / 256) <<< 8 ||| n % 256 := by
  apply Nat.eq_of_testBit_eq
  intro i
  simp only [Nat.testBit_xor, Nat.testBit_or, Nat.testBit_shiftLeft]
  by_cases hi : 8 ≤ i
  ·have : (n % 256).testBit i = false := Nat.testBit_lt_two_pow (Nat.lt_of_lt_of_le (Nat.mod_lt _ (by omega)) (by rw [show 256 = 2 ^ 8 by rfl]; exact Nat.pow_le_pow_right (by omega) hi))
   simp [this]
  ·simp [hi]
 rw [h1, h2, ← Nat.shiftLeft_add_eq_or_of_lt (show n % 256 < 2 ^ 8 by omega), Nat.shiftLeft_eq]
 omega
theorem stn8 (n : Nat) : stn 8 n = (n >>> 8) ^^^ stn 8 (n % 256) := by
 have h := low_split n
 have h2 : stn 8 n = stn 8 ((n >>> 8) * 2 ^ 8 ^^^ n % 256) := by rw [← h]
 rw [h2, stn_xor, stn_shift]
theorem upd_eq (n : Nat) (b : UInt8) : upd n b = (n >>> 8) ^^^ stn 8 ((n ^^^ b.toNat) % 256) := by
 unfold upd
 rw [stn8, Nat.shiftRight_xor_distrib]
 have hb : b.toNat >>> 8 = 0 := by rw [Nat.shiftRight_eq_div_pow]; have := b.toNat_lt; omega
 rw [hb, Nat.xor_zero]
theorem upd_lt {n : Nat} (b : UInt8) (h : n < 4294967296) : upd n b < 4294967296 :=
 stn_lt 8 (Nat.xor_lt_two_pow (n := 32) h (by have := b.toNat_lt; omega))
theorem run_lt : ∀ (l : List UInt8) {n : Nat}, n < 4294967296 → run n l < 4294967296
 | [], _, h => h
 | b :: l, _, h => run_lt l (upd_lt b h)
theorem run_snoc (n : Nat) (l : List UInt8) (b : UInt8) : run n (l ++ [b]) = upd (run n l) b := by simp [run]

/-! Bits of byte rows. -/
def lowAt (b p i : Nat) : Nat := (b % 2 ^ i) * 2 ^ p
def turned (l : List UInt8) (b p i : Nat) : List UInt8 := List.zipWith (· ^^^ ·) l (Lib.leBytes l.length (lowAt b p i))
end Go.Proofs.YtmmjckokjmpfpaaGreat

namespace Go.Proofs.YtmmjckokjmpfpaaGreat
open Go.RowKit Go.Lib

theorem half_u32 (m : Nat) : ((m : Int) / 2) = ((m / 2 : Nat) : Int) := by simp
theorem st_mul (m : Nat) (hm : m < 4294967296) : bits .xor .u32 ((m : Int) / 2) (2197175160 * bits .and .u32 (m : Int) 1 % 4294967296) = (st m : Nat) := by
 have h1 : bits .and .u32 (m : Int) 1 = ((m &&& 1 : Nat) : Int) := u32_and_nat m 1 hm (by omega)
 rw [h1, Nat.and_one_is_mod, half_u32, show (2197175160 * ((m % 2 : Nat) : Int) % 4294967296) = ((2197175160 * (m % 2) : Nat) : Int) by omega, u32_xor_nat _ _ (by omega) (by omega)]
 unfold st
 rw [Nat.shiftRight_eq_div_pow]
 rcases Nat.mod_two_eq_zero_or_one m with h | h <;> simp [h]
theorem st_odd (m : Nat) (hm : m < 4294967296) (h : bits .and .u32 (m : Int) 1 = 1) : bits .xor .u32 ((m : Int) / 2) 2197175160 = (st m : Nat) := by
 have h1 : bits .and .u32 (m : Int) 1 = ((m &&& 1 : Nat) : Int) := u32_and_nat m 1 hm (by omega)
 rw [h1, Nat.and_one_is_mod] at h
 have h2 := u32_xor_nat (m / 2) 2197175160 (by omega) (by omega)
 rw [half_u32, show (2197175160 : Int) = ((2197175160 : Nat) : Int) by rfl, h2]
 unfold st
 rw [Nat.shiftRight_eq_div_pow, if_pos (by omega)]
theorem st_even (m : Nat) (hm : m < 4294967296) (h : bits .and .u32 (m : Int) 1 ≠ 1) : (m : Int) / 2 = (st m : Nat) := by
 have h1 : bits .and .u32 (m : Int) 1 = ((m &&& 1 : Nat) : Int) := u32_and_nat m 1 hm (by omega)
 rw [h1, Nat.and_one_is_mod] at h
 unfold st
 rw [Nat.shiftRight_eq_div_pow, if_neg (by omega), Nat.xor_zero]
 simp
theorem stn_step {n m k : Nat} (hk : k < 8) (h : stn 8 n = stn (8 - k) m) : stn 8 n = stn (8 - (k + 1)) (st m) := by
 rw [h, show 8 - k = (8 - (k + 1)) + 1 by omega]; rfl

theorem eight_any (n : Nat) (w : World) (hn : n < 4294967296) :
  Calls Tryz.prog 171 #[.int .u32 n] w fun e w' => e = .returned (.int .u32 (stn 8 n)) ∧ w = w' := by
 go_enter Tryz.func171, Tryz.ntmps171
 go_wp2
 go_loop [0, 3] (fun v i => ∃ k m : Nat, k ≤ 8 ∧ m < 4294967296 ∧ i = .int .i64 k ∧ v = .int .u32 m ∧ Hid (stn 8 n = stn (8 - k) m)) (fun _ i => 8 - (RowKit.intOf i).toNat)
 case atStart => exact ⟨0, n, by omega, hn, rfl, rfl, rfl⟩
 case round =>
  obtain ⟨k, m, hk, hm, rfl, rfl, HS⟩ := hrel
  by_cases hlt : k < 8
  ·go_wp2
   go_round
   case rel => exact ⟨k + 1, st m, by omega, st_lt hm, by go_num, by rw [st_mul m hm], stn_step hlt HS.out⟩
   case measure => simp [RowKit.intOf]; omega
  ·obtain rfl : k = 8 := by omega
   go_wp2
   go_ret
   exact ⟨by rw [HS.out]; rfl, rfl⟩
theorem step_any (n : Nat) (w : World) (hn : n < 4294967296) :
  Calls Tryz.prog 152 #[.int .u32 n] w fun e w' => e = .returned (.int .u32 (stn 8 n)) ∧ w = w' := by
 go_enter Tryz.func152, Tryz.ntmps152
 go_wp2
 go_loop [0, 3] (fun v i => ∃ k m : Nat, k ≤ 8 ∧ m < 4294967296 ∧ i = .int .i64 k ∧ v = .int .u32 m ∧ Hid (stn 8 n = stn (8 - k) m)) (fun _ i => 8 - (RowKit.intOf i).toNat)
 case atStart => exact ⟨0, n, by omega, hn, rfl, rfl, rfl⟩
 case round =>
  obtain ⟨k, m, hk, hm, rfl, rfl, HS⟩ := hrel
  by_cases hlt : k < 8
  ·by_cases hb : bits .and .u32 (m : Int) 1 = 1
   ·go_wp2
    go_round
    case rel => exact ⟨k + 1, st m, by omega, st_lt hm, by go_num, by rw [st_odd m hm hb], stn_step hlt HS.out⟩
    case measure => simp [RowKit.intOf]; omega
   ·go_wp2
    go_round
    case rel => exact ⟨k + 1, st m, by omega, st_lt hm, by go_num, by rw [st_even m hm hb], stn_step hlt HS.out⟩
    case measure => simp [RowKit.intOf]; omega
  ·obtain rfl : k = 8 := by omega
   go_wp2
   go_ret
   exact ⟨by rw [HS.out]; rfl, rfl⟩

def tabK (k : Nat) : Array Value := Array.ofFn (n := 256) fun i => if i.1 < k then .int .u32 (stn 8 i.1) else .int .u32 0
theorem tabK_size (k : Nat) : (tabK k).size = 256 := by simp [tabK]
theorem tabK_at (k i : Nat) (h : i < 256) : (tabK k)[i]? = some (if i < k then .int .u32 (stn 8 i) else .int .u32 0) := by
 simp [tabK, h]
theorem tabK_set (k : Nat) (h : k < 256) : (tabK k).setIfInBounds k (.int .u32 (stn 8 k)) = tabK (k + 1) := by
 apply Array.ext_getElem?
 intro i
 rw [Array.getElem?_setIfInBounds, tabK_size]
 by_cases hi : i < 256
 ·rw [tabK_at _ _ hi, tabK_at _ _ hi]
  by_cases he : k = i
  ·subst he; simp [h]
  ·rw [if_neg he]
   congr 1
   by_cases h1 : i < k
   ·rw [if_pos h1, if_pos (by omega)]
   ·rw [if_neg h1, if_neg (by omega)]
 ·have e1 : (tabK k)[i]? = none := Array.getElem?_eq_none (by rw [tabK_size]; omega)
  have e2 : (tabK (k + 1))[i]? = none := Array.getElem?_eq_none (by rw [tabK_size]; omega)
  rw [e1, e2, if_neg (by omega)]
theorem tabK_one (k : Nat) : (tabK k).all (·.oneCell') = true := by
 rw [Array.all_eq_true]
 intro i hi
 have h2 := tabK_at k i (by rw [tabK_size] at hi; exact hi)
 rw [Array.getElem?_eq_getElem hi] at h2
 have h3 := Option.some.inj h2
 rw [h3]
 split <;> rfl
def tab : Array Value := tabK 256
set_option maxRecDepth 100000 in
theorem infoTab : (Tryz.prog.info? 202).map (fun i => (i.zero, i.size)) = some (some (.agg (tabK 0)), 256) := by kernel_rfl
theorem below_setRow {B : Nat} {a w : World} (h : Below B a w) {g : Nat} (hg : B ≤ g) (cs : Array Value) : Below B a (w.setRow g cs) :=
 ⟨h.os, h.tape, h.output, by rw [setRow_size]; exact h.size, fun k hk => (setRow_other _ _ _ _ (by omega)).trans (h.block k hk)⟩
set_option maxRecDepth 100000 in
theorem table_any (w : World) :
  Calls Tryz.prog 170 #[] w fun e w' => e = .returned (.agg tab) ∧ Below w.heap.size w w' := by
 obtain ⟨hz, hi⟩ := zero_of_info infoTab
 have HI := Lib.hid hi
 clear hi
 have B0 : Blk ((w.alloc (.cells (tabK 0) 202)).alloc (.cells (tabK 0) 202)) w.heap.size 202 (tabK 0) := (Blk.new _ _ _).alloc _
 have B1 : Blk ((w.alloc (.cells (tabK 0) 202)).alloc (.cells (tabK 0) 202)) (w.heap.size + 1) 202 (tabK 0) := by
  have := Blk.new (w.alloc (.cells (tabK 0) 202)) 202 (tabK 0)
  simpa using this
 have HB0 := Lib.hid B0
 have HB1 := Lib.hid B1
 clear B0 B1
 go_enter Tryz.func170, Tryz.ntmps170
 go_wp2
 go_loopw [2, 3] (fun _ i wr => ∃ k : Nat, k ≤ 256 ∧ i = .int .i64 k ∧ Blk wr w.heap.size 202 (tabK 0) ∧ Blk wr (w.heap.size + 1) 202 (tabK k) ∧ Below w.heap.size w wr) (fun _ i _ => 256 - (RowKit.intOf i).toNat)
 case atStart => exact ⟨0, by omega, rfl, HB0.out, HB1.out, (((Below.refl _ _).alloc (Nat.le_refl _) _).alloc (by simp) _)⟩
 case round =>
  obtain ⟨k, hk, rfl, b0, b1, hbr⟩ := hrel
  by_cases hlt : k < 256
  ·have c1 := b1.cell k
   rw [tabK_at k k hlt] at c1
   have f1 := b1.frozen k
   have HB0 := Lib.hid b0
   have HB1 := Lib.hid b1
   clear b0 b1
   go_wp2_with fail
   refine (eight_any k _ (by omega)).mono ?_
   rintro e w' ⟨rfl, rfl⟩
   go_wp2_with fail
   go_roundw
   case rel => 
    refine ⟨k + 1, by omega, by go_num, ?_, ?_, ?_⟩
    ·exact HB0.out.far (by show w.heap.size ≠ w.heap.size + 1; omega) _
    ·have := HB1.out.set_ k (.int .u32 (stn 8 k))
     rw [tabK_set k hlt] at this
     exact this
    ·exact hbr.setCell (by show w.heap.size ≤ w.heap.size + 1; omega) _
   case measure => simp [RowKit.intOf]; omega
  ·obtain rfl : k = 256 := by omega
   have hs0 : (Tryz.prog.info? 202).map (·.size) = some (tabK 256).size := by rw [tabK_size]; exact HI.out
   have h0 : wr.heap[w.heap.size]? = some (.cells (tabK 0) 202 (0, 0)) := b0
   have h1 : wr.heap[w.heap.size + 1]? = some (.cells (tabK 256) 202 (0, 0)) := b1
   have H0 := Lib.hid h0
   have H1 := Lib.hid h1
   have HS := Lib.hid hs0
   clear b0 b1 h0 h1 hs0 hz
   go_wp2_with (first
    | (refine wpList_load_row rfl 202 (.tmp 1) rfl (w.heap.size + 1) rfl 202 (tabK 256) (0, 0) _ H1.out Tryz.underlying202 rfl HS.out ?_)
    | (refine wpList_store_row rfl 202 (.tmp 0) (.tmp 12) rfl w.heap.size (tabK 256) rfl rfl 202 (tabK 0) H0.out HS.out (by rw [tabK_size, tabK_size]) (tabK_one _) ?_))
   (try simp only [Exit.inBlock, Exit.then])
   refine bodyPost_ret (results_cell_row rfl _ _ w.heap.size 202 (tabK 256) (0, 0) _ rfl (setRow_heap _ _ _ _ _ _ H0.out) Tryz.underlying202 rfl HS.out) rfl ⟨rfl, below_setRow hbr (Nat.le_refl _) _⟩
set_option maxRecDepth 100000 in
theorem rtable_any (w : World) :
  Calls Tryz.prog 130 #[] w fun e w' => e = .returned (.agg tab) ∧ Below w.heap.size w w' := by
 obtain ⟨hz, hi⟩ := zero_of_info infoTab
 have HI := Lib.hid hi
 clear hi
 have B0 : Blk ((w.alloc (.cells (tabK 0) 202)).alloc (.cells (tabK 0) 202)) w.heap.size 202 (tabK 0) := (Blk.new _ _ _).alloc _
 have B1 : Blk ((w.alloc (.cells (tabK 0) 202)).alloc (.cells (tabK 0) 202)) (w.heap.size + 1) 202 (tabK 0) := by
  have := Blk.new (w.alloc (.cells (tabK 0) 202)) 202 (tabK 0)
  simpa using this
 have HB0 := Lib.hid B0
 have HB1 := Lib.hid B1
 clear B0 B1
 go_enter Tryz.func130, Tryz.ntmps130
 go_wp2
 go_loopw [2] (fun i wr => ∃ k : Nat, k ≤ 256 ∧ i = .int .i64 k ∧ Blk wr w.heap.size 202 (tabK 0) ∧ Blk wr (w.heap.size + 1) 202 (tabK k) ∧ Below w.heap.size w wr) (fun i _ => 256 - (RowKit.intOf i).toNat)
 case atStart => exact ⟨0, by omega, rfl, HB0.out, HB1.out, (((Below.refl _ _).alloc (Nat.le_refl _) _).alloc (by simp) _)⟩
 case round =>
  obtain ⟨k, hk, rfl, b0, b1, hbr⟩ := hrel
  by_cases hlt : k < 256
  ·have c1 := b1.cell k
   rw [tabK_at k k hlt] at c1
   have f1 := b1.frozen k
   have HB0 := Lib.hid b0
   have HB1 := Lib.hid b1
   clear b0 b1
   go_wp2_with fail
   refine (step_any k _ (by omega)).mono ?_
   rintro e w' ⟨rfl, rfl⟩
   go_wp2_with fail
   go_roundw
   case rel => 
    refine ⟨k + 1, by omega, by go_num, ?_, ?_, ?_⟩
    ·exact HB0.out.far (by show w.heap.size ≠ w.heap.size + 1; omega) _
    ·have := HB1.out.set_ k (.int .u32 (stn 8 k))
     rw [tabK_set k hlt] at this
     exact this
    ·exact hbr.setCell (by show w.heap.size ≤ w.heap.size + 1; omega) _
   case measure => simp [RowKit.intOf]; omega
  ·obtain rfl : k = 256 := by omega
   have hs0 : (Tryz.prog.info? 202).map (·.size) = some (tabK 256).size := by rw [tabK_size]; exact HI.out
   have h0 : wr.heap[w.heap.size]? = some (.cells (tabK 0) 202 (0, 0)) := b0
   have h1 : wr.heap[w.heap.size + 1]? = some (.cells (tabK 256) 202 (0, 0)) := b1
   have H0 := Lib.hid h0
   have H1 := Lib.hid h1
   have HS := Lib.hid hs0
   clear b0 b1 h0 h1 hs0 hz
   go_wp2_with (first
    | (refine wpList_load_row rfl 202 (.tmp 1) rfl (w.heap.size + 1) rfl 202 (tabK 256) (0, 0) _ H1.out Tryz.underlying202 rfl HS.out ?_)
    | (refine wpList_store_row rfl 202 (.tmp 0) (.tmp 12) rfl w.heap.size (tabK 256) rfl rfl 202 (tabK 0) H0.out HS.out (by rw [tabK_size, tabK_size]) (tabK_one _) ?_))
   (try simp only [Exit.inBlock, Exit.then])
   refine bodyPost_ret (results_cell_row rfl _ _ w.heap.size 202 (tabK 256) (0, 0) _ rfl (setRow_heap _ _ _ _ _ _ H0.out) Tryz.underlying202 rfl HS.out) rfl ⟨rfl, below_setRow hbr (Nat.le_refl _) _⟩

theorem idx_u8 (m : Nat) (b : UInt8) : bits .xor .u8 ((m : Int) % 256) (b.toNat : Int) = (((m ^^^ b.toNat) % 256 : Nat) : Int) := by
 have hb := b.toNat_lt
 rw [show (m : Int) % 256 = ((m % 256 : Nat) : Int) by omega, u8_xor_nat _ _ (by omega) (by omega)]
 congr 1
 rw [show 256 = 2 ^ 8 by rfl, Nat.xor_mod_two_pow, Nat.mod_eq_of_lt (show b.toNat < 2 ^ 8 by omega)]
theorem upd_u32 (m : Nat) (b : UInt8) (hm : m < 4294967296) : bits .xor .u32 ((m : Int) / 256) ((stn 8 ((m ^^^ b.toNat) % 256) : Nat) : Int) = (upd m b : Nat) := by
 have h1 : stn 8 ((m ^^^ b.toNat) % 256) < 4294967296 := stn_lt 8 (by omega)
 rw [show (m : Int) / 256 = ((m / 256 : Nat) : Int) by omega, u32_xor_nat _ _ (by omega) h1, upd_eq, Nat.shiftRight_eq_div_pow]
set_option maxRecDepth 100000 in
theorem after_any (n : Nat) (s : ByteArray) (w : World) (hn : n < 4294967296) (hs : s.size ≤ maxLen) :
  Calls Tryz.prog 169 #[.agg tab, .int .u32 n, .string s] w fun e w' => e = .returned (.int .u32 (run n s.data.toList)) ∧ Below w.heap.size w w' := by
 unfold maxLen at hs
 have b0 : Blk (w.alloc (.cells tab 202)) w.heap.size 202 tab := Blk.new _ _ _
 have B0 := Lib.hid b0
 clear b0
 go_enter Tryz.func169, Tryz.ntmps169
 go_wp2
 go_loop [1, 7, 10] (fun v _ i => ∃ k m : Nat, k ≤ s.size ∧ m < 4294967296 ∧ i = .int .i64 k ∧ v = .int .u32 m ∧ Hid (m = run n (s.data.toList.take k))) (fun _ _ i => s.size - (RowKit.intOf i).toNat)
 case atStart => exact ⟨0, n, by omega, hn, rfl, rfl, rfl⟩
 case round =>
  obtain ⟨k, m, hk, hm, rfl, rfl, HS⟩ := hrel
  by_cases hlt : k < s.size
  ·have hi := idx_u8 m s[k]
   have hj : (m ^^^ s[k].toNat) % 256 < 256 := Nat.mod_lt _ (by omega)
   have c1 := B0.out.cell ((m ^^^ s[k].toNat) % 256)
   have hcell : tab[(m ^^^ s[k].toNat) % 256]? = some (.int .u32 (stn 8 ((m ^^^ s[k].toNat) % 256))) := by rw [tab, tabK_at _ _ hj, if_pos hj]
   rw [hcell] at c1
   clear hcell
   go_wp2
   go_round
   case rel =>
    refine ⟨k + 1, upd m s[k], by omega, upd_lt _ hm, by go_num, by rw [upd_u32 m _ hm], ?_⟩
    show upd m s[k] = _
    rw [take_snoc _ k (by simpa using hlt), run_snoc, ← HS.out]
    rfl
   case measure => simp [RowKit.intOf]; omega
  ·obtain rfl : k = s.size := by omega
   go_wp2
   go_ret
   refine ⟨?_, ?_⟩
   ·have e := HS.out
    rw [List.take_of_length_le (by simp)] at e
    rw [← e]; rfl
   ·exact (Below.refl _ _).alloc (Nat.le_refl _) _
def crcM (c : Nat) (l : List UInt8) : Nat := 4294967295 - run (4294967295 - c) l
theorem crcM_lt (c : Nat) (l : List UInt8) : crcM c l < 4294967296 := by unfold crcM; omega
theorem crcM_nil (c : Nat) (h : c < 4294967296) : crcM c [] = c := by unfold crcM run; simp; omega
theorem xor_ones32 (b : Nat) (hb : b < 2 ^ 32) : (2 ^ 32 - 1) ^^^ b = 2 ^ 32 - 1 - b := by
 apply Nat.eq_of_testBit_eq
 intro i
 rw [Nat.testBit_xor, Nat.testBit_two_pow_sub_one, show 2 ^ 32 - 1 - b = 2 ^ 32 - (b + 1) by omega, Nat.testBit_two_pow_sub_succ hb]
 by_cases hi : i < 32
 ·simp [hi]
 ·have : b.testBit i = false := Nat.testBit_lt_two_pow (Nat.lt_of_lt_of_le hb (Nat.pow_le_pow_right (by decide) (by omega)))
  simp [hi, this]
theorem not_u32 (c : Nat) (h : c < 4294967296) : bits .xor .u32 IntKind.u32.max (c : Int) = ((4294967295 - c : Nat) : Int) := by
 have e : (IntKind.u32.max : Int) = ((4294967295 : Nat) : Int) := by decide
 rw [e, u32_xor_nat _ _ (by omega) h]
 congr 1
 exact xor_ones32 c h
theorem str_nil {s : ByteArray} (h : s.data.toList = []) : s = ⟨#[]⟩ := by
 apply ByteArray.ext
 apply Array.ext'
 exact h
theorem more_any (c : Nat) (s : ByteArray) (w : World) (hc : c < 4294967296) (hs : s.size ≤ maxLen) :
  Calls Tryz.prog 168 #[.int .u32 c, .string s] w fun e w' => e = .returned (.int .u32 (crcM c s.data.toList)) ∧ Below w.heap.size w w' := by
 by_cases h0 : s.data.toList = []
 ·obtain rfl := str_nil h0
  clear h0
  have hcr := Lib.hid (crcM_nil c hc)
  go_enter Tryz.func168, Tryz.ntmps168
  go_wp2
  go_ret
  refine ⟨?_, Below.refl _ _⟩
  show Ending.returned (.int .u32 ((c : Nat) : Int)) = Ending.returned (.int .u32 ((crcM c [] : Nat) : Int))
  rw [hcr.out]
 ·have h1 : s.toList ≠ [] := by rw [Lib.toList_data]; exact h0
  have h2 : s.toList.isEmpty = false := by simpa using h1
  have hc' := not_u32 c hc
  clear h0
  go_enter Tryz.func168, Tryz.ntmps168
  go_wp2_with fail
  refine (table_any _).mono ?_
  rintro e w1 ⟨rfl, hb1⟩
  go_wp2_with fail
  refine (after_any (4294967295 - c) s _ (by omega) hs).mono ?_
  rintro e w2 ⟨rfl, hb2⟩
  have hr := run_lt s.data.toList (show 4294967295 - c < 4294967296 by omega)
  have hr' : bits .xor .u32 IntKind.u32.max ((run (4294967295 - c) s.data.toList : Nat) : Int) = ((crcM c s.data.toList : Nat) : Int) := by rw [not_u32 _ hr]; rfl
  go_wp2_with fail
  go_ret
  exact ⟨rfl, hb1.trans (hb2.mono hb1.size)⟩
set_option maxRecDepth 100000 in
theorem rmore_any (c : Nat) (s : ByteArray) (w : World) (hc : c < 4294967296) (hs : s.size ≤ maxLen) :
  Calls Tryz.prog 108 #[.int .u32 c, .string s] w fun e w' => e = .returned (.int .u32 (crcM c s.data.toList)) ∧ Below w.heap.size w w' := by
 obtain ⟨hz, hi⟩ := zero_of_info infoTab
 have HI := Lib.hid hi
 clear hi
 have hm := hs
 unfold maxLen at hs
 have hc' := not_u32 c hc
 go_enter Tryz.func108, Tryz.ntmps108
 go_wp2_with fail
 refine (rtable_any _).mono ?_
 rintro e w1 ⟨rfl, hb1⟩
 have hs0 : (Tryz.prog.info? 202).map (·.size) = some tab.size := by rw [tab, tabK_size]; exact HI.out
 have HS := Lib.hid hs0
 have H0 := Lib.hid (show (w1.alloc (.cells (tabK 0) 202)).heap[w1.heap.size]? = some (.cells (tabK 0) 202 (0, 0)) from heap_alloc_new _ _)
 have hb1' := below_setRow (hb1.alloc hb1.size (.cells (tabK 0) 202)) (g := w1.heap.size) hb1.size tab
 have b0 : Blk ((w1.alloc (.cells (tabK 0) 202)).setRow w1.heap.size tab) w1.heap.size 202 tab := setRow_heap _ _ _ _ _ _ H0.out
 have B0 := Lib.hid b0
 have B1 := Lib.hid hb1'
 clear hs0 b0 hb1' hb1
 go_wp2_with (refine wpList_store_row rfl 202 (.tmp 5) (.tmp 8) rfl w1.heap.size tab rfl rfl 202 (tabK 0) H0.out HS.out (by rw [tab, tabK_size, tabK_size]) (tabK_one _) ?_)
 clear hz
 generalize (w1.alloc (.cells (tabK 0) 202)).setRow w1.heap.size tab = w2 at *
 go_loop [6, 7] (fun v i => ∃ k m : Nat, k ≤ s.size ∧ m < 4294967296 ∧ i = .int .i64 k ∧ v = .int .u32 m ∧ Hid (m = run (4294967295 - c) (s.data.toList.take k))) (fun _ i => s.size - (RowKit.intOf i).toNat)
 case atStart => exact ⟨0, _, by omega, by omega, rfl, rfl, rfl⟩
 case round =>
  obtain ⟨k, m, hk, hm, rfl, rfl, HS⟩ := hrel
  by_cases hlt : k < s.size
  ·have hi := idx_u8 m s[k]
   have hj : (m ^^^ s[k].toNat) % 256 < 256 := Nat.mod_lt _ (by omega)
   have c1 := B0.out.cell ((m ^^^ s[k].toNat) % 256)
   have hcell : tab[(m ^^^ s[k].toNat) % 256]? = some (.int .u32 (stn 8 ((m ^^^ s[k].toNat) % 256))) := by rw [tab, tabK_at _ _ hj, if_pos hj]
   rw [hcell] at c1
   clear hcell
   go_wp2
   go_round
   case rel =>
    refine ⟨k + 1, upd m s[k], by omega, upd_lt _ hm, by go_num, by rw [upd_u32 m _ hm], ?_⟩
    show upd m s[k] = _
    rw [take_snoc _ k (by simpa using hlt), run_snoc, ← HS.out]
    rfl
   case measure => simp [RowKit.intOf]; omega
  ·obtain rfl : k = s.size := by omega
   have hr' : bits .xor .u32 IntKind.u32.max (m : Int) = ((crcM c s.data.toList : Nat) : Int) := by
    have e := HS.out
    rw [List.take_of_length_le (by simp)] at e
    rw [not_u32 m hm, e]; rfl
   go_wp2
   go_ret
   exact ⟨rfl, B1.out⟩
theorem of_any (s : ByteArray) (w : World) (hs : s.size ≤ maxLen) :
  Calls Tryz.prog 155 #[.string s] w fun e w' => e = .returned (.int .u32 (crcM 0 s.data.toList)) ∧ Below w.heap.size w w' := by
 go_enter Tryz.func155, Tryz.ntmps155
 go_wp2_with fail
 refine (more_any 0 s _ (by omega) hs).mono ?_
 rintro e w1 ⟨rfl, hb1⟩
 go_wp2_with fail
 go_ret
 exact ⟨rfl, hb1⟩
theorem rof_any (s : ByteArray) (w : World) (hs : s.size ≤ maxLen) :
  Calls Tryz.prog 85 #[.string s] w fun e w' => e = .returned (.int .u32 (crcM 0 s.data.toList)) ∧ Below w.heap.size w w' := by
 go_enter Tryz.func85, Tryz.ntmps85
 go_wp2_with fail
 refine (rmore_any 0 s _ (by omega) hs).mono ?_
 rintro e w1 ⟨rfl, hb1⟩
 go_wp2_with fail
 go_ret
 exact ⟨rfl, hb1⟩
end Go.Proofs.YtmmjckokjmpfpaaGreat

namespace Go.Proofs.YtmmjckokjmpfpaaGreat
open Go.RowKit
open Go.Lib

def goodSize (n : Int) : Bool := decide (128 ≤ n) && decide (n ≤ 4096) && n % 64 == 0
theorem dgood_any (n : Int) (w : World) :
  Calls Tryz.prog 71 #[.int .i64 n] w fun e w' => e = .returned (.bool (goodSize n)) ∧ w = w' := by
 by_cases h1 : 128 ≤ n
 ·by_cases h2 : n ≤ 4096
  ·have h0 : 0 ≤ n := by omega
   by_cases h3 : n % 64 = 0
   ·have h4 : (n % 64 == 0) = true := by simpa using h3
    have HG := Lib.hid (show goodSize n = true by simp [goodSize, h1, h2, h3])
    clear h3
    go_enter Tryz.func71, Tryz.ntmps71
    go_wp2
    go_ret
    exact ⟨by rw [HG.out]; rfl, rfl⟩
   ·have h4 : (n % 64 == 0) = false := by simpa using h3
    have HG := Lib.hid (show goodSize n = false by simp [goodSize, h1, h2, h4])
    clear h3
    go_enter Tryz.func71, Tryz.ntmps71
    go_wp2
    go_ret
    exact ⟨by rw [HG.out]; rfl, rfl⟩
  ·have HG := Lib.hid (show goodSize n = false by simp [goodSize, h2])
   go_enter Tryz.func71, Tryz.ntmps71
   go_wp2
   go_ret
   exact ⟨by rw [HG.out]; rfl, rfl⟩
 ·have HG := Lib.hid (show goodSize n = false by simp [goodSize, h1])
  go_enter Tryz.func71, Tryz.ntmps71
  go_wp2
  go_ret
  exact ⟨by rw [HG.out]; rfl, rfl⟩

theorem good_pos {size : Nat} (h : goodSize size = true) : 128 ≤ size ∧ size ≤ 4096 := by
 simp [goodSize] at h
 omega
end Go.Proofs.YtmmjckokjmpfpaaGreat

namespace Go.Proofs.YtmmjckokjmpfpaaGreat

/-! On bytes. -/
def bWrite (size n : Nat) (b img : List UInt8) : List UInt8 :=
 (img ++ List.replicate (n * size + size - img.length) 0).take (n * size) ++ b ++ img.drop (n * size + size)
theorem bWrite_len (size n : Nat) (b img : List UInt8) (hb : b.length = size) : (bWrite size n b img).length = max img.length (n * size + size) := by
 unfold bWrite
 simp [hb]
 omega

/-! On pages. -/
structure Img where
 pages : List ByteArray
 rest : ByteArray
def zs (n : Nat) : ByteArray := ⟨(List.replicate n (0 : UInt8)).toArray⟩
theorem zs_size (n : Nat) : (zs n).size = n := by show (List.replicate n (0 : UInt8)).toArray.size = n; simp
theorem zs_list (n : Nat) : (zs n).data.toList = List.replicate n 0 := by simp [zs]

theorem size_list (s : ByteArray) : s.data.toList.length = s.size := by simp

section
variable {size : Nat} {m : Img}
end
end Go.Proofs.YtmmjckokjmpfpaaGreat

namespace Go.Proofs.YtmmjckokjmpfpaaGreat
open Go.RowKit
open Go.Lib

theorem bytes_ext {a b : ByteArray} (h : a.data.toList = b.data.toList) : a = b := by
 apply ByteArray.ext
 rw [← Array.toArray_toList (xs := a.data), h, Array.toArray_toList]
end Go.Proofs.YtmmjckokjmpfpaaGreat

namespace Go.Proofs.YtmmjckokjmpfpaaGreat
open Go.RowKit
open Go.Lib
attribute [local go_sem ↓] Go.wp_at_zero Go.wp_at_succ

theorem good_nat {size : Int} (h : goodSize size = true) : ∃ n : Nat, size = n ∧ 128 ≤ n ∧ n ≤ 4096 ∧ n % 64 = 0 := by
 simp [goodSize] at h
 exact ⟨size.toNat, by omega, by omega, by omega, by omega⟩

theorem room_yes (size : Int) (w : World) (h : goodSize size = true) :
  Calls Tryz.prog 122 #[.int .i64 size] w fun e w' => e = .returned (.int .i64 (size - 24)) ∧ w = w' := by
 obtain ⟨n, rfl, h1, h2, h3⟩ := good_nat h
 go_enter Tryz.func122, Tryz.ntmps122
 go_wp2_with (go_at_call 71; refine (dgood_any _ _).mono ?_; rw [h]; rintro e w' ⟨rfl, rfl⟩)
 go_ret
 exact ⟨rfl, rfl⟩
theorem room_no (size : Int) (w : World) (h : goodSize size = false) :
  Calls Tryz.prog 122 #[.int .i64 size] w fun e w' => e = .returned (.int .i64 0) ∧ w = w' := by
 go_enter Tryz.func122, Tryz.ntmps122
 go_wp2_with (go_at_call 71; refine (dgood_any _ _).mono ?_; rw [h]; rintro e w' ⟨rfl, rfl⟩)
 go_ret
 exact ⟨rfl, rfl⟩
theorem fpages_yes (size : Nat) (s : ByteArray) (w : World) (h : goodSize size = true) (hs : s.size ≤ maxLen) :
  Calls Tryz.prog 131 #[.int .i64 size, .string s] w fun e w' => e = .returned (.int .i64 ((s.size / size : Nat) : Int)) ∧ w = w' := by
 have hp := good_pos h
 have h0 : ¬ (size : Int) = 0 := by omega
 have hq : wrap64 ((s.size : Int) / (size : Int)) = ((s.size / size : Nat) : Int) := by
  have h1 : s.size / size ≤ s.size := Nat.div_le_self _ _
  unfold maxLen at hs
  rw [← Int.natCast_ediv]
  generalize s.size / size = q at *
  unfold wrap64
  omega
 go_enter Tryz.func131, Tryz.ntmps131
 go_wp2_with (go_at_call 71; refine (dgood_any _ _).mono ?_; rw [h]; rintro e w' ⟨rfl, rfl⟩)
 go_ret
 exact ⟨by rw [← hq]; rfl, rfl⟩
theorem need_yes (size : Int) (s : ByteArray) (e : Int) (w : World) :
  Calls Tryz.prog 153 #[.agg #[.int .i64 size, .string s], .bool true, .int .i64 e] w fun e w' => e = .returned (.tuple #[]) ∧ Below w.heap.size w w' := by
 go_enter Tryz.func153, Tryz.ntmps153
 go_wp2
 go_end0
 exact ⟨rfl, (Below.refl _ _).alloc (Nat.le_refl _) _⟩
theorem need_no (size : Int) (s : ByteArray) (n : Int) (w : World) :
  Calls Tryz.prog 153 #[.agg #[.int .i64 size, .string s], .bool false, .int .i64 n] w fun e w' => e = .panicked [{ v := .iface 204 (.int .i64 n), recovered := false }] ∧ Below w.heap.size w w' := by
 go_enter Tryz.func153, Tryz.ntmps153
 go_wp2
 exact ⟨rfl, rfl, (Below.refl _ _).alloc (Nat.le_refl _) _⟩
set_option maxHeartbeats 1600000 in
theorem rnum (size : Int) (s : ByteArray) (f t : Nat) (w : World) (h1 : f < t) (h2 : t ≤ f + 8) (h3 : t ≤ s.size) (hs : s.size ≤ 1000000) :
  Calls Tryz.prog 154 #[.agg #[.int .i64 size, .string s], .int .i64 f, .int .i64 t] w fun e w' => e = .returned (.int .u64 (leNat (List.take (t - f) (List.drop f s.data.toList)))) ∧ Below w.heap.size w w' := by
 have q1 : (0 : Int) ≤ f := by omega
 have q2 : (f : Int) ≤ t := by omega
 have q3 : (t : Int) ≤ s.size := by omega
 have hsz : (s.extract f t).size = t - f := by rw [ByteArray.size_extract]; omega
 have hl : ((s.extract f t).data.toList).take (t - f) = (s.extract f t).data.toList := by
  rw [List.take_of_length_le]; rw [size_list, hsz]; exact Nat.le_refl _
 have hd : ((t : Int) - f) = ((t - f : Nat) : Int) := by omega
 have HSZ := Lib.hid hsz
 have HL := Lib.hid hl
 clear hsz hl
 have b0 : Blk (w.alloc (.cells #[.int .i64 size, .string s] 206)) w.heap.size 206 #[.int .i64 size, .string s] := Blk.new _ _ _
 have B0 := Lib.hid b0
 clear b0
 go_enter Tryz.func154, Tryz.ntmps154
 go_wp2_with fail
 refine (new_any' _ _).mono ?_
 rintro e w1 ⟨rfl, hr, hb1, hlt⟩
 rw [show (w.alloc (.cells #[.int .i64 size, .string s] 206)).heap.size = w.heap.size + 1 by simp] at hr hb1 hlt
 go_wp2_with fail
 refine (number_ok' hr (t - f) (by omega) (by omega) (by rw [HSZ.out]; exact Nat.le_refl _)).mono ?_
 rw [HL.out]
 rintro e w2 ⟨rfl, hr2, hg2⟩
 have c1 := (B0.out.below hb1 (Nat.lt_succ_self _)).grown hg2 (by simp)
 have k0 := c1.cell 0
 have k1 := c1.cell 1
 simp at k0 k1
 clear c1 hr2 hr
 go_wp2_with fail
 refine (need_yes _ _ _ _).mono ?_
 rintro e w3 ⟨rfl, hb3⟩
 go_wp2_with fail
 go_ret
 refine ⟨rfl, ?_⟩
 have hb0 : Below w.heap.size w (w.alloc (.cells #[.int .i64 size, .string s] 206)) := (Below.refl _ _).alloc (Nat.le_refl _) _
 have hb01 := hb0.trans (hb1.mono (Nat.le_succ _))
 have hb02 := hb01.grown hg2 hb01.size (by rintro g ⟨⟩; simp)
 exact hb02.trans (hb3.mono hb02.size)

end Go.Proofs.YtmmjckokjmpfpaaGreat

