/-
  Texts that the main proof rests on, put together: Ref1, Ref4Put. No statement is proved here.
-/
import Derived.Test.YtabhhccdbfjigaaGreatJ2
import Derived.Test.YtabhhccdbfjigaaGreatJ14
import Derived.Test.YtabhhccdbfjigaaGreatJ7
namespace Go.Proofs.YtabhhccdbfjigaaGreat
open Go.RowKit Go.Lib
set_option linter.unusedVariables false
set_option linter.unusedSimpArgs false
set_option maxRecDepth 100000

/-- The reference's reader. -/
def IsRf (w : World) (g : Nat) (s : ByteArray) : Prop := Blk w g 123 #[.string s]
theorem rnew_any (s : ByteArray) (w : World) :
    Calls Tryz.prog 63 #[.string s] w fun e w' => e = .returned (.pointer (some ⟨w.heap.size, 0, none⟩)) ∧ w' = w.alloc (.cells #[.string s] 123) := by
  go_enter Tryz.func63, Tryz.ntmps63
  go_wp2
  go_ret
  exact ⟨rfl, rfl⟩
theorem rnumber_arg {w : World} {g : Nat} (n : Int) (hn : ¬ (1 ≤ n ∧ n ≤ 8)) :
    Calls Tryz.prog 64 #[.pointer (some ⟨g, 0, none⟩), .int .i64 n] w fun e w' => e = .returned (.tuple #[.int .u64 0, .int .i64 2]) ∧ w = w' := by
  by_cases h1 : n < 1
  · clear hn
    go_enter Tryz.func64, Tryz.ntmps64
    go_wp2
    go_ret2
    exact ⟨rfl, rfl⟩
  · have h2 : 8 < n := by omega
    clear hn
    go_enter Tryz.func64, Tryz.ntmps64
    go_wp2
    go_ret2
    exact ⟨rfl, rfl⟩
theorem rnumber_more {w : World} {g : Nat} {s : ByteArray} (h : IsRf w g s) (n : Int) (h1 : 1 ≤ n) (h2 : n ≤ 8) (hn : (s.size : Int) < n) :
    Calls Tryz.prog 64 #[.pointer (some ⟨g, 0, none⟩), .int .i64 n] w fun e w' => e = .returned (.tuple #[.int .u64 0, .int .i64 7]) ∧ w = w' := by
  have c0 := Blk.cell h 0
  simp at c0
  go_enter Tryz.func64, Tryz.ntmps64
  go_wp2
  go_ret2
  exact ⟨rfl, rfl⟩
theorem rnumber_ok {w : World} {g : Nat} {s : ByteArray} (h : IsRf w g s) (n : Nat) (h1 : 1 ≤ n) (h2 : n ≤ 8) (hn : n ≤ s.size) :
    Calls Tryz.prog 64 #[.pointer (some ⟨g, 0, none⟩), .int .i64 n] w fun e w' => e = .returned (.tuple #[.int .u64 (leNat (s.data.toList.take n)), .int .i64 0]) ∧ w' = w.setCell ⟨g, 0, none⟩ (.string (s.extract n s.size)) := by
  have c0 := Blk.cell h 0
  simp at c0
  have f0 := Blk.frozen h 0
  have h1' : (1 : Int) ≤ n := by omega
  have h2' : (n : Int) ≤ 8 := by omega
  go_enter Tryz.func64, Tryz.ntmps64
  go_wp2
  go_loop [6, 7] (fun v i => ∃ k : Nat, k ≤ n ∧ i = .int .i64 k ∧ v = .int .u64 (leNat (s.data.toList.take k))) (fun _ i => n - (RowKit.intOf i).toNat)
  case atStart => exact ⟨0, Nat.zero_le _, rfl, rfl⟩
  case round =>
    obtain ⟨k, hk, rfl, rfl⟩ := hrel
    by_cases hlt : k < n
    · have hlt' : k < s.size := by omega
      go_wp2
      go_round
      case rel =>
        refine ⟨k + 1, by omega, by go_num, ?_⟩
        have hl : (s.data.toList.take k).length = k := by simp; omega
        have h1 := leNat_lt (s.data.toList.take k)
        have h2 := leNat_snoc (s.data.toList.take k) s[k]
        rw [hl] at h1 h2
        rw [or_step _ k s[k] (by omega) h1, take_snoc _ k (by simpa using hlt'), ← h2]
        rfl
      case measure => simp [RowKit.intOf]; omega
    · obtain rfl : k = n := by omega
      go_wp2
      go_ret2
      exact ⟨rfl, rfl⟩
theorem IsRf.stored {w : World} {g : Nat} {s : ByteArray} (h : IsRf w g s) (s' : ByteArray) : IsRf (w.setCell ⟨g, 0, none⟩ (.string s')) g s' ∧ w.grownBy (w.setCell ⟨g, 0, none⟩ (.string s')) (some g) := by
  refine ⟨Blk.set_ h 0 _, rfl, rfl, rfl, by simp [World.setCell], fun k _ hne => Below.heap_setCell _ _ _ _ (fun e => hne (by rw [e]))⟩
theorem rnumber_ok' {w : World} {g : Nat} {s : ByteArray} (h : IsRf w g s) (n : Nat) (h1 : 1 ≤ n) (h2 : n ≤ 8) (hn : n ≤ s.size) :
    Calls Tryz.prog 64 #[.pointer (some ⟨g, 0, none⟩), .int .i64 n] w fun e w' => e = .returned (.tuple #[.int .u64 (leNat (s.data.toList.take n)), .int .i64 0]) ∧ IsRf w' g (s.extract n s.size) ∧ w.grownBy w' (some g) :=
  (rnumber_ok h n h1 h2 hn).mono fun _ _ ⟨he, hw⟩ => ⟨he, by subst hw; exact h.stored _⟩
theorem rnew_any' (s : ByteArray) (w : World) :
    Calls Tryz.prog 63 #[.string s] w fun e w' => e = .returned (.pointer (some ⟨w.heap.size, 0, none⟩)) ∧ IsRf w' w.heap.size s ∧ Below w.heap.size w w' ∧ w.heap.size < w'.heap.size :=
  (rnew_any s w).mono fun _ _ ⟨he, hw⟩ => ⟨he, by subst hw; exact ⟨Blk.new _ _ _, (Below.refl _ _).alloc (Nat.le_refl _) _, by simp⟩⟩

theorem rput_yes (A : Option Addr) (n c num k : Nat) (l : List UInt8) (w : World) (hr : Reads w w.heap.size 1 A n (bcells l)) (hn : n + 8 ≤ 140737488355328) (h1 : 1 ≤ k) (h2 : k ≤ 8) :
    Calls Tryz.prog 89 #[.slice A n c, .int .u64 num, .int .i64 k] w fun e w' => ∃ v, e = .returned v ∧ w'.ownsRow w.heap.size 5 1 v (n + k) (bcells (l ++ leBytes k num)) ∧ Below w.heap.size w w' := by
  obtain ⟨i0, hi0, hz0, hz1, hz2⟩ := info_parts infoU8
  have h1' : (1 : Int) ≤ k := by omega
  have h2' : (k : Int) ≤ 8 := by omega
  have hown1 : (w.alloc (.cells #[] 5)).ownsRow w.heap.size 5 1 (.slice (some ⟨w.heap.size, 0, none⟩) 0 0) 0 [] := World.ownsRow_made w #[] 0 (Nat.le_refl _) (by simp [maxLen]) rfl
  have hb1 : Below w.heap.size w (w.alloc (.cells #[] 5)) := (Below.refl _ _).alloc (Nat.le_refl _) _
  have HO := Lib.hid hown1
  have HB := Lib.hid hb1
  clear hown1 hb1
  go_enter Tryz.func89, Tryz.ntmps89
  go_wp2_with (at_builtin; refine wpList_append_any _ rfl (.tmp 9) (.tmp 10) _ rfl w.heap.size 5 i0 _ 1 1 Tryz.underlying57 hi0 hz0 hz1 hz2 rfl (by omega) _ 0 [] rfl HO.out w.heap.size A n c _ rfl (hr.below HB.out) (bcells_one _) (by unfold maxLen; omega) (by omega) HB.out.size ?_; intro v2 w2 hown2 hg2 hat2)
  have hb2 : Below w.heap.size w w2 := HB.out.grown hg2 HB.out.size (by rintro g ⟨⟩; exact Nat.le_refl _)
  clear hg2 hat2 HO HB
  go_loopw [7, 8] (fun v i wr => ∃ j : Nat, j ≤ k ∧ i = .int .i64 j ∧ wr.ownsRow w.heap.size 5 1 v (n + j) (bcells (l ++ leBytes j num)) ∧ Below w.heap.size w wr) (fun _ i _ => k - (RowKit.intOf i).toNat)
  case atStart => exact ⟨0, Nat.zero_le _, rfl, by simpa [leBytes] using hown2, hb2⟩
  case round =>
    obtain ⟨j, hj, rfl, hown, hbr⟩ := hrel
    by_cases hlt : j < k
    · go_wp2_with (first
        | (at_builtin; refine wpList_append_any _ rfl (.tmp 24) (.tmp 31) _ rfl w.heap.size 5 i0 _ 1 1 Tryz.underlying57 hi0 hz0 hz1 hz2 rfl (by omega) _ (n + j) _ rfl (hown.alloc _) (wr.heap.size + 1) (some ⟨wr.heap.size, 0, none⟩) 1 1 [Value.int .u8 ((num : Int) / 2 ^ (8 * j) % 256)] rfl (reads_new _ _ _ _) (oneCell_one rfl) (by unfold maxLen; omega) (by omega) (by have := hbr.size; simp; omega) ?_; intro v3 w3 hown3 hg3 hat3))
      go_roundw
      case rel =>
        refine ⟨j + 1, by omega, by go_num, ?_, ?_⟩
        · rw [leBytes_snoc, ← List.append_assoc, bcells_append, ← byte_cell]
          exact hown3
        · exact (hbr.alloc hbr.size _).grown hg3 (by have := hbr.size; simp; omega) (fun g hg => (hown.lt g hg).1)
      case measure => simp [RowKit.intOf]; omega
    · go_wp2
      go_ret
      have : j = k := by omega
      subst this
      exact ⟨_, rfl, hown, hbr⟩
theorem rput_no (A : Option Addr) (n c num : Nat) (wd : Int) (l : List UInt8) (w : World) (hr : Reads w w.heap.size 1 A n (bcells l)) (hn : n + 8 ≤ 140737488355328) (hw : ¬ (1 ≤ wd ∧ wd ≤ 8)) :
    Calls Tryz.prog 89 #[.slice A n c, .int .u64 num, .int .i64 wd] w fun e w' => ∃ v, e = .returned v ∧ w'.ownsRow w.heap.size 5 1 v n (bcells l) ∧ Below w.heap.size w w' := by
  obtain ⟨i0, hi0, hz0, hz1, hz2⟩ := info_parts infoU8
  have hown1 : (w.alloc (.cells #[] 5)).ownsRow w.heap.size 5 1 (.slice (some ⟨w.heap.size, 0, none⟩) 0 0) 0 [] := World.ownsRow_made w #[] 0 (Nat.le_refl _) (by simp [maxLen]) rfl
  have hb1 : Below w.heap.size w (w.alloc (.cells #[] 5)) := (Below.refl _ _).alloc (Nat.le_refl _) _
  have HO := Lib.hid hown1
  have HB := Lib.hid hb1
  clear hown1 hb1
  have h8 : wd < 1 ∨ 8 < wd := by omega
  clear hw
  rcases h8 with h8 | h8
  · go_enter Tryz.func89, Tryz.ntmps89
    go_wp2_with (at_builtin; refine wpList_append_any _ rfl (.tmp 9) (.tmp 10) _ rfl w.heap.size 5 i0 _ 1 1 Tryz.underlying57 hi0 hz0 hz1 hz2 rfl (by omega) _ 0 [] rfl HO.out w.heap.size A n c _ rfl (hr.below HB.out) (bcells_one _) (by unfold maxLen; omega) (by omega) HB.out.size ?_; intro v2 w2 hown2 hg2 hat2)
    go_ret
    exact ⟨_, rfl, by simpa using hown2, HB.out.grown hg2 HB.out.size (by rintro g ⟨⟩; exact Nat.le_refl _)⟩
  · have h9 : ¬ wd < 1 := by omega
    go_enter Tryz.func89, Tryz.ntmps89
    go_wp2_with (at_builtin; refine wpList_append_any _ rfl (.tmp 9) (.tmp 10) _ rfl w.heap.size 5 i0 _ 1 1 Tryz.underlying57 hi0 hz0 hz1 hz2 rfl (by omega) _ 0 [] rfl HO.out w.heap.size A n c _ rfl (hr.below HB.out) (bcells_one _) (by unfold maxLen; omega) (by omega) HB.out.size ?_; intro v2 w2 hown2 hg2 hat2)
    go_ret
    exact ⟨_, rfl, by simpa using hown2, HB.out.grown hg2 HB.out.size (by rintro g ⟨⟩; exact Nat.le_refl _)⟩
theorem rput_reads (A : Option Addr) (n c num k : Nat) (l : List UInt8) (w : World) (hr : Reads w w.heap.size 1 A n (bcells l)) (hn : n + 8 ≤ 140737488355328) (h1 : 1 ≤ k) (h2 : k ≤ 8) :
    Calls Tryz.prog 89 #[.slice A n c, .int .u64 num, .int .i64 k] w fun e w' => ∃ A' c', e = .returned (.slice A' (n + k) c') ∧ Reads w' w'.heap.size 1 A' (n + k) (bcells (l ++ leBytes k num)) ∧ Below w.heap.size w w' :=
  (rput_yes A n c num k l w hr hn h1 h2).mono fun _ _ ⟨v, he, ho, hb⟩ => by
    obtain ⟨A', c', rfl, _⟩ := own_form ho
    exact ⟨A', c', he, Reads.of_own ho, hb⟩
end Go.Proofs.YtabhhccdbfjigaaGreat
namespace Go.Proofs.YtabhhccdbfjigaaGreat
open Go.RowKit
open Go.Lib
set_option linter.unusedVariables false
set_option linter.unusedSimpArgs false
attribute [local go_sem ↓] Go.wp_at_zero Go.wp_at_succ

set_option maxHeartbeats 3200000 in
theorem rrest_any (kd ct pg lk tx : Nat) (bd : ByteArray) (w : World) (h1 : kd < 18446744073709551616) (h2 : ct < 18446744073709551616) (h3 : pg < 18446744073709551616) (h4 : lk < 18446744073709551616) (h5 : bd.size ≤ 1000000000) (rs : ByteArray) (hrs : rs = ⟨(restL kd ct pg lk tx bd).toArray⟩) :
    Calls Tryz.prog 92 #[.agg #[.int .i64 kd, .int .i64 ct, .int .u32 pg, .int .u32 lk, .int .u64 tx, .string bd]] w fun e w' => e = .returned (.string rs) ∧ Below w.heap.size w w' := by
  have b0 : Blk (w.alloc (.cells #[.int .i64 kd, .int .i64 ct, .int .u32 pg, .int .u32 lk, .int .u64 tx, .string bd] 37)) w.heap.size 37 #[.int .i64 kd, .int .i64 ct, .int .u32 pg, .int .u32 lk, .int .u64 tx, .string bd] := Blk.new _ _ _
  have B0 := Lib.hid b0
  clear b0
  have hb0 : Below w.heap.size w (w.alloc (.cells #[.int .i64 kd, .int .i64 ct, .int .u32 pg, .int .u32 lk, .int .u64 tx, .string bd] 37)) := (Below.refl _ _).alloc (Nat.le_refl _) _
  have hlt : w.heap.size < (w.alloc (.cells #[.int .i64 kd, .int .i64 ct, .int .u32 pg, .int .u32 lk, .int .u64 tx, .string bd] 37)).heap.size := by simp
  obtain ⟨w0, hw0⟩ : ∃ w0, w0 = w.alloc (.cells #[.int .i64 kd, .int .i64 ct, .int .u32 pg, .int .u32 lk, .int .u64 tx, .string bd] 37) := ⟨_, rfl⟩
  rw [← hw0] at B0 hb0 hlt
  have e1 := u64_nat kd h1
  have e2 := u64_nat ct h2
  have e3 := u64_nat pg h3
  have e4 := u64_nat lk h4
  have b0 := B0.out
  have c0 := b0.cell 0
  have c1 := b0.cell 1
  have c2 := b0.cell 2
  have c3 := b0.cell 3
  have c4 := b0.cell 4
  have c5 := b0.cell 5
  simp at c0 c1 c2 c3 c4 c5
  clear b0
  go_enter Tryz.func92, Tryz.ntmps92
  go_wp2_with fail
  rw [← hw0]
  clear hw0
  refine (rput_reads none 0 0 kd 1 [] _ (reads_nil _) (by omega) (by omega) (by omega)).mono ?_
  rintro e w1 ⟨A1, c1_, rfl, hr1, hb1⟩
  rw [List.nil_append] at hr1
  have R1 := Lib.hid hr1
  replace B0 := Lib.hid (B0.out.below hb1 hlt)
  replace hlt := Nat.lt_of_lt_of_le hlt hb1.size
  replace hb0 := hb0.trans (hb1.mono hb0.size)
  clear c0 c1 c2 c3 c4 c5 hb1 hr1
  have b0 := B0.out
  have c0 := b0.cell 0
  have c1 := b0.cell 1
  have c2 := b0.cell 2
  have c3 := b0.cell 3
  have c4 := b0.cell 4
  have c5 := b0.cell 5
  simp at c0 c1 c2 c3 c4 c5
  clear b0
  go_wp2_with fail
  refine (rput_reads A1 1 c1_ 1 1 (leBytes 1 kd) _ R1.out (by omega) (by omega) (by omega)).mono ?_
  rintro e w2 ⟨A2, c2_, rfl, hr2, hb2⟩
  have R2 := Lib.hid hr2
  replace B0 := Lib.hid (B0.out.below hb2 hlt)
  replace hlt := Nat.lt_of_lt_of_le hlt hb2.size
  replace hb0 := hb0.trans (hb2.mono hb0.size)
  clear c0 c1 c2 c3 c4 c5 hb2 hr2
  have b0 := B0.out
  have c0 := b0.cell 0
  have c1 := b0.cell 1
  have c2 := b0.cell 2
  have c3 := b0.cell 3
  have c4 := b0.cell 4
  have c5 := b0.cell 5
  simp at c0 c1 c2 c3 c4 c5
  clear b0
  go_wp2_with fail
  refine (rput_reads A2 2 c2_ ct 2 ((leBytes 1 kd) ++ leBytes 1 1) _ R2.out (by omega) (by omega) (by omega)).mono ?_
  rintro e w3 ⟨A3, c3_, rfl, hr3, hb3⟩
  have R3 := Lib.hid hr3
  replace B0 := Lib.hid (B0.out.below hb3 hlt)
  replace hlt := Nat.lt_of_lt_of_le hlt hb3.size
  replace hb0 := hb0.trans (hb3.mono hb0.size)
  clear c0 c1 c2 c3 c4 c5 hb3 hr3
  have b0 := B0.out
  have c0 := b0.cell 0
  have c1 := b0.cell 1
  have c2 := b0.cell 2
  have c3 := b0.cell 3
  have c4 := b0.cell 4
  have c5 := b0.cell 5
  simp at c0 c1 c2 c3 c4 c5
  clear b0
  go_wp2_with fail
  refine (rput_reads A3 4 c3_ pg 4 (((leBytes 1 kd) ++ leBytes 1 1) ++ leBytes 2 ct) _ R3.out (by omega) (by omega) (by omega)).mono ?_
  rintro e w4 ⟨A4, c4_, rfl, hr4, hb4⟩
  have R4 := Lib.hid hr4
  replace B0 := Lib.hid (B0.out.below hb4 hlt)
  replace hlt := Nat.lt_of_lt_of_le hlt hb4.size
  replace hb0 := hb0.trans (hb4.mono hb0.size)
  clear c0 c1 c2 c3 c4 c5 hb4 hr4
  have b0 := B0.out
  have c0 := b0.cell 0
  have c1 := b0.cell 1
  have c2 := b0.cell 2
  have c3 := b0.cell 3
  have c4 := b0.cell 4
  have c5 := b0.cell 5
  simp at c0 c1 c2 c3 c4 c5
  clear b0
  go_wp2_with fail
  refine (rput_reads A4 8 c4_ lk 4 ((((leBytes 1 kd) ++ leBytes 1 1) ++ leBytes 2 ct) ++ leBytes 4 pg) _ R4.out (by omega) (by omega) (by omega)).mono ?_
  rintro e w5 ⟨A5, c5_, rfl, hr5, hb5⟩
  have R5 := Lib.hid hr5
  replace B0 := Lib.hid (B0.out.below hb5 hlt)
  replace hlt := Nat.lt_of_lt_of_le hlt hb5.size
  replace hb0 := hb0.trans (hb5.mono hb0.size)
  clear c0 c1 c2 c3 c4 c5 hb5 hr5
  have b0 := B0.out
  have c0 := b0.cell 0
  have c1 := b0.cell 1
  have c2 := b0.cell 2
  have c3 := b0.cell 3
  have c4 := b0.cell 4
  have c5 := b0.cell 5
  simp at c0 c1 c2 c3 c4 c5
  clear b0
  go_wp2_with fail
  refine (rput_reads A5 12 c5_ tx 8 (((((leBytes 1 kd) ++ leBytes 1 1) ++ leBytes 2 ct) ++ leBytes 4 pg) ++ leBytes 4 lk) _ R5.out (by omega) (by omega) (by omega)).mono ?_
  rintro e w6 ⟨A6, c6_, rfl, hr6, hb6⟩
  have R6 := Lib.hid hr6
  replace B0 := Lib.hid (B0.out.below hb6 hlt)
  replace hb0 := hb0.trans (hb6.mono hb0.size)
  have hcv := run_string_reads w6 57 9 5 c6_ Tryz.underlying57 Tryz.underlying5 Tryz.underlying9 R6.out
  clear c0 c1 c2 c3 c4 c5 hr6 hb6
  have c5 := B0.out.cell 5
  simp at c5
  have hsz : (⟨((((((leBytes 1 kd) ++ leBytes 1 1) ++ leBytes 2 ct) ++ leBytes 4 pg) ++ leBytes 4 lk) ++ leBytes 8 tx).toArray⟩ : ByteArray).size = 20 := by rw [← size_list]; simp [leB_len]
  have cat : ¬ (9223372036854775807 < (⟨((((((leBytes 1 kd) ++ leBytes 1 1) ++ leBytes 2 ct) ++ leBytes 4 pg) ++ leBytes 4 lk) ++ leBytes 8 tx).toArray⟩ : ByteArray).size + bd.size) := by rw [hsz]; omega
  have hcat : (⟨((((((leBytes 1 kd) ++ leBytes 1 1) ++ leBytes 2 ct) ++ leBytes 4 pg) ++ leBytes 4 lk) ++ leBytes 8 tx).toArray⟩ : ByteArray) ++ bd = rs := by
    rw [hrs]
    apply bytes_ext
    rw [ByteArray.data_append, Array.toList_append]
    rfl
  obtain ⟨hd, hhd⟩ : ∃ hd : ByteArray, hd = ⟨((((((leBytes 1 kd) ++ leBytes 1 1) ++ leBytes 2 ct) ++ leBytes 4 pg) ++ leBytes 4 lk) ++ leBytes 8 tx).toArray⟩ := ⟨_, rfl⟩
  rw [← hhd] at cat hcat hcv
  have HC := Lib.hid hcat
  clear hcat hhd hsz hrs
  go_wp2_with fail
  go_ret
  exact ⟨by rw [← HC.out]; rfl, hb0⟩

end Go.Proofs.YtabhhccdbfjigaaGreat
