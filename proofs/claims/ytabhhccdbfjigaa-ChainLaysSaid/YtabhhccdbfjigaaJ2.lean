/-
  Texts that the main proof rests on, put together: Plain, Octet. No statement is proved here.
-/
import Derived.Lib.Endian
import Derived.Lib.EndianBits
import Derived.Laws.Bits64b
import Derived.Laws.BitsAllLaws
import Derived.Below
import Derived.Lib.Strings
import Derived.Test.YtabhhccdbfjigaaJ1
namespace Go.Proofs.Ytabhhccdbfjigaa
open Go.Lib

theorem leNat_lt : ∀ l : List UInt8, leNat l < 2 ^ (8 * l.length)
  | [] => by simp [leNat]
  | b :: l => by
    have h := leNat_lt l
    have hb := b.toNat_lt
    simp only [leNat, List.length_cons, Nat.mul_add, Nat.pow_add]
    omega
theorem leNat_snoc : ∀ (l : List UInt8) (b : UInt8), leNat (l ++ [b]) = leNat l + b.toNat * 2 ^ (8 * l.length)
  | [], b => by simp [leNat]
  | c :: l, b => by
    have h := leNat_snoc l b
    simp only [List.cons_append, leNat, h, List.length_cons, Nat.mul_add, Nat.pow_add]
    have e : b.toNat * (2 ^ (8 * l.length) * 2 ^ (8 * 1)) = 256 * (b.toNat * 2 ^ (8 * l.length)) := by
      rw [← Nat.mul_assoc, Nat.mul_comm]
    omega
theorem leBytes_snoc : ∀ (k v : Nat), leBytes (k + 1) v = leBytes k v ++ [(v / 2 ^ (8 * k) % 256).toUInt8]
  | 0, v => by simp [leBytes]
  | k + 1, v => by
    rw [leBytes, leBytes_snoc k, leBytes, List.cons_append]
    congr 4
    rw [Nat.div_div_eq_div_mul, show 8 * (k + 1) = 8 + 8 * k by omega, Nat.pow_add]
theorem leB_len : ∀ (k v : Nat), (leBytes k v).length = k
  | 0, _ => rfl
  | k + 1, v => by simp [leBytes, leB_len k]
theorem leNat_leBytes_mod : ∀ (k v : Nat), leNat (leBytes k v) = v % 2 ^ (8 * k)
  | 0, v => by simp [leBytes, leNat, Nat.mod_one]
  | k + 1, v => by
    rw [leBytes, leNat, leNat_leBytes_mod k, toUInt8_mod, show 8 * (k + 1) = 8 + 8 * k by omega, Nat.pow_add, Nat.mod_mul]

theorem pow_small {k : Nat} (hk : k < 8) : 2 ^ (8 * k) ≤ 2 ^ 56 := Nat.pow_le_pow_right (by omega) (by omega)

/-- One more byte of a number: 'n | uint64(b) << (8 * k)'. -/
theorem or_step (n k : Nat) (b : UInt8) (hk : k < 8) (hn : n < 2 ^ (8 * k)) :
    bits .or .u64 (n : Int) (IntKind.u64.wrap (IntKind.u64.wrap (b.toNat : Int) * 2 ^ (8 * k))) = ((n + b.toNat * 2 ^ (8 * k) : Nat) : Int) := by
  have hp := pow_small hk
  have hb := b.toNat_lt
  have h2 : b.toNat * 2 ^ (8 * k) < 2 ^ 64 := by
    have : b.toNat * 2 ^ (8 * k) ≤ 255 * 2 ^ 56 := Nat.mul_le_mul (by omega) hp
    omega
  have e1 : IntKind.u64.wrap (b.toNat : Int) = (b.toNat : Int) := by rw [IntKind.wrap_u64]; omega
  have e2 : (b.toNat : Int) * 2 ^ (8 * k) = ((b.toNat * 2 ^ (8 * k) : Nat) : Int) := by simp
  rw [e1, e2, IntKind.wrap_u64, show ((b.toNat * 2 ^ (8 * k) : Nat) : Int) % 18446744073709551616 = ((b.toNat * 2 ^ (8 * k) : Nat) : Int) by omega]
  rw [bits_or_u64_nat _ _ (by omega) (by omega), Nat.or_comm, nat_join (8 * k) _ _ (Nat.mul_mod_left _ _) hn]
  congr 1
  omega
theorem take_snoc {α : Type} (l : List α) (k : Nat) (h : k < l.length) : l.take (k + 1) = l.take k ++ [l[k]] := by
  rw [List.take_succ_eq_append_getElem h]

theorem mask_u64 (num n : Nat) (hn : 1 ≤ n) (h8 : n < 8) (hnum : num < 18446744073709551616) :
    bits .and .u64 (num : Int) (IntKind.u64.wrap (IntKind.u64.wrap (2 ^ (8 * n)) - 1)) = ((num % 2 ^ (8 * n) : Nat) : Int) := by
  have hp : 2 ^ (8 * n) ≤ 2 ^ 56 := Nat.pow_le_pow_right (by omega) (by omega)
  have hp1 : 1 ≤ 2 ^ (8 * n) := Nat.one_le_two_pow
  have e2 : (2 : Int) ^ (8 * n) = ((2 ^ (8 * n) : Nat) : Int) := by simp
  rw [e2]
  have hpn := Nat.and_two_pow_sub_one_eq_mod num (8 * n)
  generalize 2 ^ (8 * n) = P at *
  rw [IntKind.wrap_u64, IntKind.wrap_u64, show (((P : Nat) : Int) % 18446744073709551616 - 1) % 18446744073709551616 = ((P - 1 : Nat) : Int) by omega]
  rw [bits_and_u64_nat _ _ hnum (by omega), hpn]

/-- All bytes are 0. -/
def zeros (l : List UInt8) : Bool := l.all (· == 0)
theorem zeros_snoc (l : List UInt8) (b : UInt8) : zeros (l ++ [b]) = (zeros l && b == 0) := by simp [zeros]
theorem zeros_at {l : List UInt8} {k : Nat} (h : k < l.length) (hb : l[k] ≠ 0) : zeros l = false := by
  rw [Bool.eq_false_iff]
  intro hz
  have := List.all_eq_true.1 hz l[k] (List.getElem_mem h)
  simp at this
  exact hb this
/-! Go's '%' cuts towards nought. -/
theorem tmod_lt0 (x : Int) (m : Nat) (h : 1 ≤ m) (hn : x.tmod m < 0) : x.tmod m + m = x % m ∧ -(m:Int) < x.tmod m := by
  have e := @Int.tmod_eq_emod x m
  have h1 := Int.emod_nonneg x (show (m : Int) ≠ 0 by omega)
  have h2 := Int.emod_lt_of_pos x (show (0 : Int) < m by omega)
  by_cases hc : 0 ≤ x ∨ (m : Int) ∣ x
  · rw [if_pos hc] at e
    omega
  · rw [if_neg hc] at e
    have h3 : x % (m : Int) ≠ 0 := fun h0 => hc (.inr (Int.dvd_of_emod_eq_zero h0))
    simp only [Int.natAbs_natCast] at e
    omega
theorem tmod_ge0 (x : Int) (m : Nat) (h : 1 ≤ m) (hn : 0 ≤ x.tmod m) : x.tmod m = x % m := by
  have e := @Int.tmod_eq_emod x m
  have h2 := Int.emod_lt_of_pos x (show (0 : Int) < m by omega)
  by_cases hc : 0 ≤ x ∨ (m : Int) ∣ x
  · rw [if_pos hc] at e
    omega
  · rw [if_neg hc] at e
    simp only [Int.natAbs_natCast] at e
    omega
/-! Parts of a string. -/
theorem ext_ext (a : ByteArray) (p m : Nat) (_hm : p + m ≤ a.size) : (a.extract p a.size).extract 0 m = a.extract p (p + m) := by
  rw [ByteArray.extract_extract]; congr 1; omega
theorem ext_rest (a : ByteArray) (p m : Nat) (_hp : p + m ≤ a.size) : (a.extract p a.size).extract m (a.extract p a.size).size = a.extract (p + m) a.size := by
  rw [ByteArray.extract_extract, ByteArray.size_extract]; congr 1; omega
theorem ext_app (a : ByteArray) (p q : Nat) (hpq : p ≤ q) : a.extract 0 p ++ a.extract p q = a.extract 0 q := by
  apply ByteArray.ext
  apply Array.ext'
  rw [ByteArray.data_append, Array.toList_append, Lib.extract_data, Lib.extract_data, Lib.extract_data]
  simp only [List.drop_zero, Nat.sub_zero]
  rw [show q = p + (q - p) by omega, List.take_add]
  simp
theorem ext_all (a : ByteArray) : a.extract 0 a.size = a := by simp
theorem byte_eq0 (b : UInt8) : ((b.toNat : Int) == 0) = (b == 0) := by
  rw [Bool.eq_iff_iff]
  simp only [beq_iff_eq, ← UInt8.toNat_inj, UInt8.toNat_zero]
  omega
end Go.Proofs.Ytabhhccdbfjigaa
namespace Go.Proofs.Ytabhhccdbfjigaa
open Go.RowKit
theorem infoRd : (Try.prog.info? 150).map (fun i => (i.zero, i.size, i.bytes)) = some (some (.agg #[.pointer none, .string ByteArray.empty]), 2, 24) := by kernel_rfl
theorem infoU8 : (Try.prog.info? 5).map (fun i => (i.zero, i.size, i.bytes)) = some (some (.int .u8 0), 1, 1) := by kernel_rfl

def IsRd (w : World) (g : Nat) (s : ByteArray) : Prop := Blk w g 150 #[.pointer (some ⟨g, 0, none⟩), .string s]

theorem valid_yes {w : World} {g : Nat} {s : ByteArray} (h : IsRd w g s) :
    Calls Try.prog 115 #[.pointer (some ⟨g, 0, none⟩)] w fun e w' => e = .returned (.bool true) ∧ w = w' := by
  obtain ⟨i0, hi0, hz0, hz1, hz2⟩ := info_parts infoRd
  have c0 := Blk.cell h 0
  simp at c0
  have heq := run_eql_ptr_same w ⟨g, 0, none⟩ Try.underlying126 hi0
  go_enter Try.func115, Try.ntmps115
  go_wp2
  go_ret
  exact ⟨rfl, rfl⟩

theorem valid_nil {w : World} :
    Calls Try.prog 115 #[.pointer none] w fun e w' => e = .returned (.bool false) ∧ w = w' := by
  go_enter Try.func115, Try.ntmps115
  go_wp2
  go_ret
  exact ⟨rfl, rfl⟩

theorem width_any (n : Int) (w : World) :
    Calls Try.prog 88 #[.int .i64 n] w fun e w' => e = .returned (.bool (decide (1 ≤ n) && decide (n ≤ 8))) ∧ w = w' := by
  by_cases h1 : 1 ≤ n <;> by_cases h2 : n ≤ 8 <;> go_enter Try.func88, Try.ntmps88 <;> go_wp2 <;> go_ret <;> exact ⟨by simp [h1, h2], rfl⟩

theorem new_any (s : ByteArray) (w : World) :
    Calls Try.prog 96 #[.string s] w fun e w' => e = .returned (.pointer (some ⟨w.heap.size, 0, none⟩)) ∧ w' = w.alloc (.cells #[.pointer (some ⟨w.heap.size, 0, none⟩), .string s] 150) := by
  go_enter Try.func96, Try.ntmps96
  go_wp2
  go_ret
  exact ⟨rfl, rfl⟩
open Go.Lib
theorem getElem_toList (s : ByteArray) (k : Nat) (h : k < s.size) : s.data.toList[k]'(by simpa using h) = s[k] := rfl
theorem number_any (s : ByteArray) (w : World) (hs : s.size ≤ 8) :
    Calls Try.prog 117 #[.string s] w fun e w' => e = .returned (.int .u64 (leNat s.data.toList)) ∧ w = w' := by
  go_enter Try.func117, Try.ntmps117
  go_wp2
  go_loop [3, 7] (fun n i => ∃ k : Nat, k ≤ s.size ∧ i = .int .i64 k ∧ n = .int .u64 (leNat (s.data.toList.take k))) (fun _ i => s.size - (RowKit.intOf i).toNat)
  case atStart => exact ⟨0, Nat.zero_le _, rfl, rfl⟩
  case round =>
    obtain ⟨k, hk, rfl, rfl⟩ := hrel
    by_cases hlt : k < s.size
    · go_wp2
      go_round
      case rel =>
        refine ⟨k + 1, by omega, by go_num, ?_⟩
        have hl : (s.data.toList.take k).length = k := by simp; omega
        have h1 := leNat_lt (s.data.toList.take k)
        have h2 := leNat_snoc (s.data.toList.take k) s[k]
        rw [hl] at h1 h2
        rw [or_step _ k s[k] (by omega) h1, take_snoc _ k (by simpa using hlt), ← h2]
        rfl
      case measure => simp [RowKit.intOf]; omega
    · go_wp2
      go_ret
      refine ⟨?_, rfl⟩
      rw [List.take_of_length_le (by simp; omega)]; rfl
theorem oneCell_one {u : Value} (h : u.oneCell' = true) : ∀ v ∈ [u], v.oneCell' = true := by
  intro v hv; simp at hv; subst hv; exact h
theorem reads_new (w : World) (cs : Array Value) (t : TypeId) (fr : Nat × Nat) : Reads (w.alloc (.cells cs t fr)) (w.heap.size + 1) 1 (some ⟨w.heap.size, 0, none⟩) cs.size cs.toList := by
  refine ⟨by simp, fun _ => ⟨_, rfl, Nat.lt_succ_self _, fun j u hu => ?_⟩⟩
  have e : (⟨w.heap.size, 0, none⟩ : Addr).add j = ⟨w.heap.size, j, none⟩ := by unfold Addr.add; split <;> simp_all
  rw [e, World.cell?_alloc_mark]
  simpa using hu
theorem byte_cell (num j : Nat) : [Value.int .u8 ((num : Int) / 2 ^ (8 * j) % 256)] = bcells [(num / 2 ^ (8 * j) % 256).toUInt8] := by
  simp [bcells]
theorem put_yes (A : Option Addr) (n c num k : Nat) (l : List UInt8) (w : World) (hr : Reads w w.heap.size 1 A n (bcells l)) (hn : n + 8 ≤ 140737488355328) (h1 : 1 ≤ k) (h2 : k ≤ 8) :
    Calls Try.prog 64 #[.slice A n c, .int .u64 num, .int .i64 k] w fun e w' => ∃ v, e = .returned v ∧ w'.ownsRow w.heap.size 5 1 v (n + k) (bcells (l ++ leBytes k num)) ∧ Below w.heap.size w w' := by
  obtain ⟨i0, hi0, hz0, hz1, hz2⟩ := info_parts infoU8
  have h1' : (1 : Int) ≤ k := by omega
  have h2' : (k : Int) ≤ 8 := by omega
  have hb : (decide ((1 : Int) ≤ k) && decide ((k : Int) ≤ 8)) = true := by simp; omega
  go_enter Try.func64, Try.ntmps64
  go_wp2_with (first
    | (go_at_call 88; refine (width_any _ _).mono ?_; rintro e w' ⟨rfl, rfl⟩)
    | (at_make; refine wpList_make_own _ rfl _ _ 60 rfl w.heap.size 5 i0 _ 1 Try.underlying60 hi0 hz0 hz1 _ _ _ (n + k) rfl rfl (by omega) (by rw [hz2]; omega) (by unfold maxLen; omega) (Nat.le_refl _) ?_; intro w1 hown1 hg1)
    | (at_builtin; refine wpList_append_any _ rfl (.tmp 17) (.tmp 18) _ rfl w.heap.size 5 i0 _ 1 1 Try.underlying60 hi0 hz0 hz1 hz2 rfl (by omega) _ 0 [] rfl hown1 w.heap.size A n c _ rfl (hr.below ((Below.refl _ _).grown hg1 (Nat.le_refl _) (by simp))) (bcells_one _) (by unfold maxLen; omega) (by omega) hg1.size ?_; intro v2 w2 hown2 hg2 hat2))
  have hb2 : Below w.heap.size w w2 := ((Below.refl _ _).grown hg1 (Nat.le_refl _) (by simp)).grown hg2 hg1.size (by rintro g ⟨⟩; exact Nat.le_refl _)
  clear hg1 hg2 hown1 hat2
  go_loopw [7, 21] (fun v i wr => ∃ j : Nat, j ≤ k ∧ i = .int .i64 j ∧ wr.ownsRow w.heap.size 5 1 v (n + j) (bcells (l ++ leBytes j num)) ∧ Below w.heap.size w wr) (fun _ i _ => k - (RowKit.intOf i).toNat)
  case atStart => exact ⟨0, Nat.zero_le _, rfl, by simpa [leBytes] using hown2, hb2⟩
  case round =>
    obtain ⟨j, hj, rfl, hown, hbr⟩ := hrel
    by_cases hlt : j < k
    · go_wp2_with (first
        | (at_builtin; refine wpList_append_any _ rfl (.tmp 24) (.tmp 30) _ rfl w.heap.size 5 i0 _ 1 1 Try.underlying60 hi0 hz0 hz1 hz2 rfl (by omega) _ (n + j) _ rfl (hown.alloc _) (wr.heap.size + 1) (some ⟨wr.heap.size, 0, none⟩) 1 1 [Value.int .u8 ((num : Int) / 2 ^ (8 * j) % 256)] rfl (reads_new _ _ _ _) (oneCell_one rfl) (by unfold maxLen; omega) (by omega) (by have := hbr.size; simp; omega) ?_; intro v3 w3 hown3 hg3 hat3))
      go_roundw
      case rel =>
        refine ⟨j + 1, by omega, by go_num, ?_, ?_⟩
        · rw [leBytes_snoc, ← List.append_assoc, bcells_append, ← byte_cell]
          exact hown3
        · exact (hbr.alloc hbr.size _).grown hg3 (by have := hbr.size; simp; omega) (fun g hg => (hown.lt g hg).1)
      case measure => simp [RowKit.intOf]; omega
    · go_wp2
      go_ret
      have : j = k := by omega
      subst this
      exact ⟨_, rfl, hown, hbr⟩


theorem put_no (A : Option Addr) (n c num : Nat) (wd : Int) (l : List UInt8) (w : World) (hr : Reads w w.heap.size 1 A n (bcells l)) (hn : n + 8 ≤ 140737488355328) (hw : ¬ (1 ≤ wd ∧ wd ≤ 8)) :
    Calls Try.prog 64 #[.slice A n c, .int .u64 num, .int .i64 wd] w fun e w' => ∃ v, e = .returned v ∧ w'.ownsRow w.heap.size 5 1 v n (bcells l) ∧ Below w.heap.size w w' := by
  obtain ⟨i0, hi0, hz0, hz1, hz2⟩ := info_parts infoU8
  have hb : (decide ((1 : Int) ≤ wd) && decide (wd ≤ 8)) = false := by simp; omega
  clear hw
  go_enter Try.func64, Try.ntmps64
  go_wp2_with (first
    | (go_at_call 88; refine (width_any _ _).mono ?_; rw [hb]; rintro e w' ⟨rfl, rfl⟩)
    | (at_make; refine wpList_make_own _ rfl _ _ 60 rfl w.heap.size 5 i0 _ 1 Try.underlying60 hi0 hz0 hz1 _ _ _ n rfl rfl (by omega) (by rw [hz2]; omega) (by unfold maxLen; omega) (Nat.le_refl _) ?_; intro w1 hown1 hg1)
    | (at_builtin; refine wpList_append_any _ rfl (.tmp 17) (.tmp 18) _ rfl w.heap.size 5 i0 _ 1 1 Try.underlying60 hi0 hz0 hz1 hz2 rfl (by omega) _ 0 [] rfl hown1 w.heap.size A n c _ rfl (hr.below ((Below.refl _ _).grown hg1 (Nat.le_refl _) (by simp))) (bcells_one _) (by unfold maxLen; omega) (by omega) hg1.size ?_; intro v2 w2 hown2 hg2 hat2))
  have hb2 : Below w.heap.size w w2 := ((Below.refl _ _).grown hg1 (Nat.le_refl _) (by simp)).grown hg2 hg1.size (by rintro g ⟨⟩; exact Nat.le_refl _)
  have hown3 : w2.ownsRow w.heap.size 5 1 v2 n (bcells l) := by simpa using hown2
  clear hg1 hg2 hown1 hat2 hown2
  refine wp_loop_rounds 1 ?_
  rw [rounds_succ]
  go_wp2
  go_ret
  exact ⟨_, rfl, hown3, hb2⟩
theorem bytes_arg {w : World} {g : Nat} {s : ByteArray} (h : IsRd w g s) (n : Int) (hn : n < 0) :
    Calls Try.prog 116 #[.pointer (some ⟨g, 0, none⟩), .int .i64 n] w fun e w' => e = .returned (.tuple #[.string ⟨#[]⟩, .int .i64 2]) ∧ w = w' := by
  go_enter Try.func116, Try.ntmps116
  go_wp2_with (go_at_call 115; refine (valid_yes h).mono ?_; rintro e w' ⟨rfl, rfl⟩)
  go_ret2
  exact ⟨rfl, rfl⟩
theorem bytes_more {w : World} {g : Nat} {s : ByteArray} (h : IsRd w g s) (n : Int) (hn : (s.size : Int) < n) :
    Calls Try.prog 116 #[.pointer (some ⟨g, 0, none⟩), .int .i64 n] w fun e w' => e = .returned (.tuple #[.string ⟨#[]⟩, .int .i64 7]) ∧ w = w' := by
  have c1 := Blk.cell h 1
  simp at c1
  have h0 : ¬ n < 0 := by omega
  go_enter Try.func116, Try.ntmps116
  go_wp2_with (go_at_call 115; refine (valid_yes h).mono ?_; rintro e w' ⟨rfl, rfl⟩)
  go_ret2
  exact ⟨rfl, rfl⟩
theorem bytes_ok {w : World} {g : Nat} {s : ByteArray} (h : IsRd w g s) (n : Nat) (hn : n ≤ s.size)  :
    Calls Try.prog 116 #[.pointer (some ⟨g, 0, none⟩), .int .i64 n] w fun e w' => e = .returned (.tuple #[.string (s.extract 0 n), .int .i64 0]) ∧ w' = w.setCell ⟨g, 1, none⟩ (.string (s.extract n s.size)) := by
  have c1 := Blk.cell h 1
  simp at c1
  have f1 := Blk.frozen h 1
  go_enter Try.func116, Try.ntmps116
  go_wp2_with (go_at_call 115; refine (valid_yes h).mono ?_; rintro e w' ⟨rfl, rfl⟩)
  go_ret2
  exact ⟨rfl, rfl⟩
theorem bytes_nil {w : World} (n : Int) :
    Calls Try.prog 116 #[.pointer none, .int .i64 n] w fun e w' => e = .returned (.tuple #[.string ⟨#[]⟩, .int .i64 1]) ∧ w = w' := by
  go_enter Try.func116, Try.ntmps116
  go_wp2_with (go_at_call 115; refine (valid_nil).mono ?_; rintro e w' ⟨rfl, rfl⟩)
  go_ret2
  exact ⟨rfl, rfl⟩
theorem number_nil {w : World} (n : Int) :
    Calls Try.prog 97 #[.pointer none, .int .i64 n] w fun e w' => e = .returned (.tuple #[.int .u64 0, .int .i64 1]) ∧ w = w' := by
  go_enter Try.func97, Try.ntmps97
  go_wp2_with (go_at_call 115; refine (valid_nil).mono ?_; rintro e w' ⟨rfl, rfl⟩)
  go_ret2
  exact ⟨rfl, rfl⟩


theorem number_arg {w : World} {g : Nat} {s : ByteArray} (h : IsRd w g s) (n : Int) (hn : ¬ (1 ≤ n ∧ n ≤ 8)) :
    Calls Try.prog 97 #[.pointer (some ⟨g, 0, none⟩), .int .i64 n] w fun e w' => e = .returned (.tuple #[.int .u64 0, .int .i64 2]) ∧ w = w' := by
  have hb : (decide ((1 : Int) ≤ n) && decide (n ≤ 8)) = false := by simp; omega
  clear hn
  go_enter Try.func97, Try.ntmps97
  go_wp2_with (first
    | (go_at_call 115; refine (valid_yes h).mono ?_; rintro e w' ⟨rfl, rfl⟩)
    | (go_at_call 88; refine (width_any _ _).mono ?_; rw [hb]; rintro e w' ⟨rfl, rfl⟩))
  go_ret2
  exact ⟨rfl, rfl⟩
theorem number_more {w : World} {g : Nat} {s : ByteArray} (h : IsRd w g s) (n : Int) (h1 : 1 ≤ n) (h2 : n ≤ 8) (hn : (s.size : Int) < n) :
    Calls Try.prog 97 #[.pointer (some ⟨g, 0, none⟩), .int .i64 n] w fun e w' => e = .returned (.tuple #[.int .u64 0, .int .i64 7]) ∧ w = w' := by
  have hb : (decide ((1 : Int) ≤ n) && decide (n ≤ 8)) = true := by simp; omega
  go_enter Try.func97, Try.ntmps97
  go_wp2_with (first
    | (go_at_call 115; refine (valid_yes h).mono ?_; rintro e w' ⟨rfl, rfl⟩)
    | (go_at_call 88; refine (width_any _ _).mono ?_; rw [hb]; rintro e w' ⟨rfl, rfl⟩)
    | (go_at_call 116; refine (bytes_more h _ hn).mono ?_; rintro e w' ⟨rfl, rfl⟩))
  go_ret2
  exact ⟨rfl, rfl⟩
theorem number_ok {w : World} {g : Nat} {s : ByteArray} (h : IsRd w g s) (n : Nat) (h1 : 1 ≤ n) (h2 : n ≤ 8) (hn : n ≤ s.size) :
    Calls Try.prog 97 #[.pointer (some ⟨g, 0, none⟩), .int .i64 n] w fun e w' => e = .returned (.tuple #[.int .u64 (leNat (s.data.toList.take n)), .int .i64 0]) ∧ w' = w.setCell ⟨g, 1, none⟩ (.string (s.extract n s.size)) := by
  have hb : (decide ((1 : Int) ≤ n) && decide ((n : Int) ≤ 8)) = true := by simp; omega
  have hsz : (s.extract 0 n).size ≤ 8 := by simp; omega
  have hdat : (s.extract 0 n).data.toList = s.data.toList.take n := by simp
  go_enter Try.func97, Try.ntmps97
  go_wp2_with (first
    | (go_at_call 115; refine (valid_yes h).mono ?_; rintro e w' ⟨rfl, rfl⟩)
    | (go_at_call 88; refine (width_any _ _).mono ?_; rw [hb]; rintro e w' ⟨rfl, rfl⟩)
    | (go_at_call 116; refine (bytes_ok h n hn).mono ?_; rintro e w' ⟨rfl, rfl⟩)
    | (go_at_call 117; refine (number_any _ _ hsz).mono ?_; rw [hdat]; rintro e w' ⟨rfl, rfl⟩))
  go_ret2
  exact ⟨rfl, rfl⟩
/-! The same, where the world behind is told by what it is good for: only the reader's block has turned. -/
theorem IsRd.stored {w : World} {g : Nat} {s : ByteArray} (h : IsRd w g s) (s' : ByteArray) : IsRd (w.setCell ⟨g, 1, none⟩ (.string s')) g s' ∧ w.grownBy (w.setCell ⟨g, 1, none⟩ (.string s')) (some g) := by
  refine ⟨Blk.set_ h 1 _, rfl, rfl, rfl, by simp [World.setCell], fun k _ hne => Below.heap_setCell _ _ _ _ (fun e => hne (by rw [e]))⟩
theorem bytes_ok' {w : World} {g : Nat} {s : ByteArray} (h : IsRd w g s) (n : Nat) (hn : n ≤ s.size) :
    Calls Try.prog 116 #[.pointer (some ⟨g, 0, none⟩), .int .i64 n] w fun e w' => e = .returned (.tuple #[.string (s.extract 0 n), .int .i64 0]) ∧ IsRd w' g (s.extract n s.size) ∧ w.grownBy w' (some g) :=
  (bytes_ok h n hn).mono fun _ _ ⟨he, hw⟩ => ⟨he, by subst hw; exact h.stored _⟩
theorem number_ok' {w : World} {g : Nat} {s : ByteArray} (h : IsRd w g s) (n : Nat) (h1 : 1 ≤ n) (h2 : n ≤ 8) (hn : n ≤ s.size) :
    Calls Try.prog 97 #[.pointer (some ⟨g, 0, none⟩), .int .i64 n] w fun e w' => e = .returned (.tuple #[.int .u64 (leNat (s.data.toList.take n)), .int .i64 0]) ∧ IsRd w' g (s.extract n s.size) ∧ w.grownBy w' (some g) :=
  (number_ok h n h1 h2 hn).mono fun _ _ ⟨he, hw⟩ => ⟨he, by subst hw; exact h.stored _⟩
theorem new_any' (s : ByteArray) (w : World) :
    Calls Try.prog 96 #[.string s] w fun e w' => e = .returned (.pointer (some ⟨w.heap.size, 0, none⟩)) ∧ IsRd w' w.heap.size s ∧ Below w.heap.size w w' ∧ w.heap.size < w'.heap.size :=
  (new_any s w).mono fun _ _ ⟨he, hw⟩ => ⟨he, by subst hw; exact ⟨Blk.new _ _ _, (Below.refl _ _).alloc (Nat.le_refl _) _, by simp⟩⟩
end Go.Proofs.Ytabhhccdbfjigaa
