/-
  Texts that the main proof rests on, put together: LeTimes, LeSmall, LeValid. No statement is proved here.
-/
import Derived.Test.YtmmjckokjmpfpaaGreatJ22
import Derived.Test.YtmmjckokjmpfpaaGreatJ10
import Derived.Test.YtmmjckokjmpfpaaGreatJ14
import Derived.Test.YtmmjckokjmpfpaaGreatJ9
import Derived.Deep.CutRange
import Derived.Deep.DrawnRows
import Derived.WalkMore
import Derived.Test.YtmmjckokjmpfpaaGreatJ3
import Derived.Deep.RegionHeld3
set_option linter.unusedVariables false
set_option linter.unusedSimpArgs false
namespace Go.Proofs.YtmmjckokjmpfpaaGreat
open Go.RowKit
open Go.Lib hiding intOf
attribute [local go_sem ↓] Go.wp_at_zero Go.wp_at_succ

def timesPost (B : Nat) (o : Option (List It × List UInt8)) (e : Ending) (w' : World) : Prop := match o with
 | none => ∃ x : Int, e = .returned (.tuple #[.slice none 0 0, .int .i64 x]) ∧ x ≠ 0
 | some (l, _) => ∃ A n c, e = .returned (.tuple #[.slice A n c, .int .i64 0]) ∧ Reads w' w'.heap.size 5 A n (itc l) ∧ n ≤ c ∧ c ≤ maxLen ∧ ∀ ad, A = some ad → B ≤ ad.block
set_option maxRecDepth 100000 in
set_option maxHeartbeats 12800000 in
theorem ltimes_any {w : World} {g : Nat} {bd : ByteArray} (h : IsRd w g bd) (hs : bd.size ≤ 100000) (ct : Int) :
  Calls Tryz.prog 123 #[.int .i64 ct, .func (.func 124) #[.agg #[.pointer (some ⟨g, 0, none⟩)]] #[]] w fun e w' => w.grownBy w' (some g) ∧ timesPost w.heap.size (parseC ct.toNat bd.data.toList) e w' := by
 have eg1 : ∀ args w, (callFunc 124 args).run Tryz.prog w = .ok (.enter 124 args) w := fun _ _ => by first | rfl | kernel_rfl
 obtain ⟨i0, hi0, hz0, hz1, hz2⟩ := info_parts infoIt
 obtain ⟨hz, hi⟩ := zero_of_info infoItz
 have HI := Lib.hid hi
 clear hi
 have Hbd := Lib.hid hs
 have HF := Lib.hid h
 have HG := Lib.hid (World.grownBy.refl w (some g))
 have hgl := Lib.hid (Blk.lt h)
 clear h hs
 go_enter Tryz.func123, Tryz.ntmps123
 go_wp2_with fail
 go_loopw [6, 7, 8, 10] (fun v _ _ i wr => ∃ (k : Nat) (A : Option Addr) (c : Nat) (l : List It) (r : List UInt8) (s : ByteArray), k ≤ ct.toNat ∧ i = .int .i64 k ∧ v = .slice A k c ∧ Hid (parseC k bd.data.toList = some (l, r)) ∧ Hid (s.data.toList = r) ∧ Hid (IsRd wr g s) ∧ Hid (wr.ownsRow w.heap.size 76 5 (.slice A k c) k (itc l)) ∧ Hid (w.grownBy wr (some g))) (fun _ _ _ i _ => ct.toNat - (intOf i).toNat)
 case atStart => exact ⟨0, none, 0, [], _, bd, Nat.zero_le _, rfl, rfl, Lib.hid rfl, Lib.hid rfl, HF, Lib.hid (World.ownsRow_nil _ _ _ _), HG⟩
 case round =>
  clear HF HG
  obtain ⟨k, A, c, l, r, s, hk, rfl, rfl, HPr, HSr, HF, HO, HG⟩ := hrel
  have hsz := parseC_size HPr.out
  rw [size_list] at hsz
  have hk9 : k ≤ 100000 := by
   have h2 := three_le l
   rw [parseC_len HPr.out] at h2
   have h3 := Hbd.out
   omega
  have hss : s.size ≤ 100000 := by
   have h1 := HSr.out
   have h2 := size_list s
   rw [h1] at h2
   have h3 := Hbd.out
   omega
  clear hsz
  by_cases hlt : (k : Int) < ct
  ·have hkc : k + 1 ≤ ct.toNat := by omega
   go_wp2_with fail
   refine (lread_item HF.out hss).mono ?_
   rintro e w2 ⟨b, x, s', rfl, hf, hg, hok⟩
   have HG2 := Lib.hid (grown_trans HG.out hg)
   unfold itemOk at hok
   rw [HSr.out] at hok
   replace HO := Lib.hid (HO.out.kept hg (own_apart HO.out hgl.out))
   have HF2 := Lib.hid hf
   obtain ⟨ky, vl, ov, ln, hd⟩ := b
   dsimp only
   rcases hsf : stepC r with _ | ⟨b, r'⟩
   ·rw [hsf] at hok
    have hx1 : (x != 0) = true := by simpa using hok
    have hx2 : (x == 0) = false := by simpa using hok
    have HX := Lib.hid hok
    have HE := Lib.hid (show parseC ct.toNat bd.data.toList = none by
     have h1 := parseC_none (parseC_stop HPr.out hsf) (ct.toNat - (k + 1))
     rw [show k + 1 + (ct.toNat - (k + 1)) = ct.toNat by omega] at h1
     exact h1)
    have HG3 := Lib.hid (grown_trans HG2.out (World.grownBy_alloc w2 (.cells #[.string ky, .string vl, .bool ov, .int .i64 ln, .int .u32 hd] 76) _))
    clear hok hsf hf hg HF
    go_wp2_with fail
    go_ret2
    refine ⟨HG3.out, ?_⟩
    rw [HE.out]
    exact ⟨x, rfl, HX.out⟩
   ·rw [hsf] at hok
    obtain ⟨rfl, hb, hr'⟩ := hok
    have HP4 := Lib.hid (parseC_step HPr.out hsf)
    rw [hb] at HP4
    have HS4 := Lib.hid hr'
    clear hf hb hr' hsf hg HF
    obtain ⟨w3, hw3⟩ : ∃ x, x = w2.alloc (.cells #[.string ky, .string vl, .bool ov, .int .i64 ln, .int .u32 hd] 76) := ⟨_, rfl⟩
    have M := Lib.hid (show Blk w3 w2.heap.size 76 #[.string ky, .string vl, .bool ov, .int .i64 ln, .int .u32 hd] by rw [hw3]; exact Blk.new _ _ _)
    replace HG2 := Lib.hid (show w.grownBy w3 (some g) by rw [hw3]; exact grown_trans HG2.out (World.grownBy_alloc _ _ _))
    replace HO := Lib.hid (show w3.ownsRow w.heap.size 76 5 (.slice A k c) k (itc l) by rw [hw3]; exact HO.out.alloc _)
    replace HF2 := Lib.hid (show IsRd w3 g s' by rw [hw3]; exact Blk.alloc HF2.out _)
    go_upto_region 7 with fail
    rw [← hw3]
    clear hw3
    generalize w2.heap.size = gM at *
    have m0 := M.out.cell 0
    have m1 := M.out.cell 1
    have m2 := M.out.cell 2
    have m3 := M.out.cell 3
    have m4 := M.out.cell 4
    simp at m0 m1 m2 m3 m4
    have HA := Lib.hid (HO.out.alloc (.cells #[.string ky, .string vl, .bool ov, .int .i64 ln, .int .u32 hd] 76))
    have hgl2 : w.heap.size ≤ w3.heap.size := HG2.out.size
    have HF3 := Lib.hid (show IsRd (w3.alloc (.cells #[.string ky, .string vl, .bool ov, .int .i64 ln, .int .u32 hd] 76)) g s' from Blk.alloc HF2.out _)
    have HG3 := Lib.hid (grown_trans HG2.out (World.grownBy_alloc w3 (.cells #[.string ky, .string vl, .bool ov, .int .i64 ln, .int .u32 hd] 76) _))
    go_upto_region 8 with (at_builtin; refine wpList_append_any _ rfl (.tmp 20) (.tmp 22) _ rfl w.heap.size 76 i0 _ 5 56 Tryz.underlying62 hi0 hz0 hz1 hz2 rfl (by omega) _ k _ rfl HA.out (w3.heap.size + 1) (some ⟨w3.heap.size, 0, none⟩) 1 1 (It.cells ⟨ky, vl, ov, ln, hd⟩) rfl (reads_own (n := 1) (Blk.new _ _ _) rfl) (it_one _) (by unfold maxLen; omega) (by omega) (by simp; omega) ?_; intro v5 w5 hown4 hg4 hat)
    clear hat
    rw [itc_snoc] at hown4
    obtain ⟨A4, c4, rfl, _, _, _⟩ := own_form hown4
    have HO4 := Lib.hid hown4
    have HF4 := Lib.hid (show IsRd w5 g s' from Blk.grown HF3.out hg4 (own_ne HA.out hgl.out))
    have HG4 := Lib.hid (gr_own HG3.out hg4 (fun j hj => (HA.out.lt j hj).1))
    clear hown4 hg4 HA HF3 HG3 HG2 HO HF2 HG M m0 m1 m2 m3 m4
    go_wp2_with fail
    go_roundw
    case rel =>
     first
      | exact ⟨k + 1, A4, c4, _, r', s', by omega, by go_num, rfl, HP4, HS4, HF4, HO4, HG4⟩
      | ((repeat apply Exists.intro); exact ⟨⟨k + 1, A4, c4, _, r', s', by omega, by go_num, rfl, HP4, HS4, HF4, HO4, HG4⟩, rfl⟩)
    case measure => simp [intOf]; omega
  ·have hkc : k = ct.toNat := by omega
   obtain ⟨A', c', he, h1, h2, _⟩ := own_form HO.out
   injection he with e1 e2 e3
   subst e1
   subst e3
   have HR := Lib.hid (Reads.of_own HO.out)
   have HC := Lib.hid h1
   have HMx := Lib.hid h2
   have HLo := Lib.hid (show ∀ ad, A = some ad → w.heap.size ≤ ad.block from fun ad h => (HO.out.lt ad.block (by rw [h]; rfl)).1)
   have HQ := Lib.hid (show parseC ct.toNat bd.data.toList = some (l, r) by rw [← hkc]; exact HPr.out)
   clear h1 h2 HO hkc
   go_wp2_with fail
   go_ret2
   refine ⟨HG.out, ?_⟩
   rw [HQ.out]
   exact ⟨A, k, c, rfl, HR.out, HC.out, HMx.out, HLo.out⟩
end Go.Proofs.YtmmjckokjmpfpaaGreat

namespace Go.Proofs.YtmmjckokjmpfpaaGreat
open Go.RowKit
open Go.Lib hiding intOf
attribute [local go_sem ↓] Go.wp_at_zero Go.wp_at_succ

theorem lnum_any (n : Nat) (w : World) : Calls Tryz.prog 146 #[.int .u32 n] w fun e w' => e = .returned (.bool (numB n)) ∧ w' = w := by
 by_cases h1 : 2 ≤ n
 ·have h1' : (2 : Int) ≤ n := by omega
  by_cases h2 : n ≤ 2147483647
  ·have h2' : (n : Int) ≤ 2147483647 := by omega
   have HE := Lib.hid (show numB n = true by simp [numB, h1, h2])
   go_enter Tryz.func146, Tryz.ntmps146
   go_wp2
   go_ret
   exact ⟨by rw [HE.out]; rfl, rfl⟩
  ·have h2' : ¬ (n : Int) ≤ 2147483647 := by omega
   have HE := Lib.hid (show numB n = false by simp [numB, h1, h2])
   go_enter Tryz.func146, Tryz.ntmps146
   go_wp2
   go_ret
   exact ⟨by rw [HE.out]; rfl, rfl⟩
 ·have h1' : ¬ (2 : Int) ≤ n := by omega
  have HE := Lib.hid (show numB n = false by simp [numB, h1])
  go_enter Tryz.func146, Tryz.ntmps146
  go_wp2
  go_ret
  exact ⟨by rw [HE.out]; rfl, rfl⟩
set_option maxRecDepth 100000 in
set_option maxHeartbeats 3200000 in
theorem litem_any (b : It) (w : World) : Calls Tryz.prog 164 #[.agg #[.string b.ky, .string b.vl, .bool b.ov, .int .i64 b.ln, .int .u32 b.hd]] w fun e w' => e = .returned (.bool (okIt b)) ∧ Below w.heap.size w w' := by
 obtain ⟨ky, vl, ov, ln, hd⟩ := b
 have HN := fun w => lnum_any hd w
 have HB := Lib.hid ((Below.refl w.heap.size w).alloc (Nat.le_refl _) (.cells #[.string ky, .string vl, .bool ov, .int .i64 ln, .int .u32 hd] 76))
 have hvz : vl.toList.isEmpty = decide (vl.size = 0) := by
  rw [Bool.eq_iff_iff, List.isEmpty_iff_length_eq_zero, ByteArray.toList_eq, size_list, decide_eq_true_eq]
 cases ov
 ·clear hvz
  have hE := okIt_in (b := ⟨ky, vl, false, ln, hd⟩) rfl
  dsimp only at hE
  rcases hk : keyF ky with _ | _
  ·have hkd : decide ((ky.size : Int) > 40) = true := by simp [keyF] at hk; simp; omega
   rw [hk] at hE
   have HE := Lib.hid hE
   clear hE hk
   go_enter Tryz.func164, Tryz.ntmps164
   go_wp2_with fail
   go_ret
   exact ⟨by rw [HE.out]; rfl, HB.out⟩
  have hkd : decide ((ky.size : Int) > 40) = false := by simp [keyF] at hk; simp; omega
  rw [hk] at hE
  by_cases h1 : vl.size ≤ 255
  rotate_left
  ·have h1' : decide ((vl.size : Int) ≤ 255) = false := by simp; omega
   rw [decide_eq_false h1] at hE
   have HE := Lib.hid hE
   clear hE hk h1
   go_enter Tryz.func164, Tryz.ntmps164
   go_wp2_with fail
   go_ret
   exact ⟨by rw [HE.out]; rfl, HB.out⟩
  have h1' : decide ((vl.size : Int) ≤ 255) = true := by simp; omega
  rw [decide_eq_true h1] at hE
  by_cases h2 : ln = 0
  rotate_left
  ·have h2' : (ln == 0) = false := by simpa using h2
   rw [decide_eq_false h2] at hE
   have HE := Lib.hid hE
   clear hE hk h1 h2
   go_enter Tryz.func164, Tryz.ntmps164
   go_wp2_with fail
   go_ret
   exact ⟨by rw [HE.out]; rfl, HB.out⟩
  have h2' : (ln == 0) = true := by simpa using h2
  rw [decide_eq_true h2] at hE
  have h3' : ((hd : Int) == 0) = decide (hd = 0) := by
   by_cases h3 : hd = 0
   ·simp [h3]
   ·simp [h3]
  have HE := Lib.hid hE
  have H3 := Lib.hid h3'
  clear hE hk h1 h2 h3'
  go_enter Tryz.func164, Tryz.ntmps164
  go_wp2_with fail
  go_ret
  exact ⟨by rw [HE.out, ← H3.out]; rfl, HB.out⟩
 ·have hE := okIt_ov (b := ⟨ky, vl, true, ln, hd⟩) rfl
  dsimp only at hE
  rcases hk : keyF ky with _ | _
  ·have hkd : decide ((ky.size : Int) > 40) = true := by simp [keyF] at hk; simp; omega
   rw [hk] at hE
   have HE := Lib.hid hE
   clear hE hk hvz
   go_enter Tryz.func164, Tryz.ntmps164
   go_wp2_with fail
   go_ret
   exact ⟨by rw [HE.out]; rfl, HB.out⟩
  have hkd : decide ((ky.size : Int) > 40) = false := by simp [keyF] at hk; simp; omega
  rw [hk] at hE
  by_cases h1 : vl.size = 0
  rotate_left
  ·rw [decide_eq_false h1] at hE hvz
   have HE := Lib.hid hE
   clear hE hk h1
   go_enter Tryz.func164, Tryz.ntmps164
   go_wp2_with fail
   go_ret
   exact ⟨by rw [HE.out]; rfl, HB.out⟩
  rw [decide_eq_true h1] at hE hvz
  have hvn : vl.toList = [] := List.isEmpty_iff.1 hvz
  clear hvz
  by_cases h2 : 1 ≤ ln
  rotate_left
  ·have h2' : decide (1 ≤ ln) = false := decide_eq_false h2
   rw [h2'] at hE
   have HE := Lib.hid hE
   clear hE hk h1 h2
   go_enter Tryz.func164, Tryz.ntmps164
   go_wp2_with fail
   go_ret
   exact ⟨by rw [HE.out]; rfl, HB.out⟩
  rw [decide_eq_true h2] at hE
  by_cases h3 : ln ≤ 4096
  rotate_left
  ·have h3' : decide (ln ≤ 4096) = false := decide_eq_false h3
   rw [h3'] at hE
   have HE := Lib.hid hE
   clear hE hk h1
   go_enter Tryz.func164, Tryz.ntmps164
   go_wp2_with fail
   go_ret
   exact ⟨by rw [HE.out]; rfl, HB.out⟩
  rw [decide_eq_true h3] at hE
  have HE := Lib.hid hE
  clear hE hk h1
  go_enter Tryz.func164, Tryz.ntmps164
  go_wp2_with (go_at_call 146; refine (HN _).mono ?_; rintro e w' ⟨rfl, rfl⟩)
  go_ret
  exact ⟨by rw [HE.out]; rfl, HB.out⟩
set_option maxRecDepth 100000 in
set_option maxHeartbeats 3200000 in
theorem lsize_big (A : Option Addr) (n c : Nat) (l : List It) (w : World) (hr : Reads w w.heap.size 5 A n (itc l)) (hn : n ≤ 2513169434916) (hx : NearI l) (hs : sizeI l ≤ 9007199254740992) :
  Calls Tryz.prog 145 #[.slice A n c] w fun e w' => e = .returned (.int .i64 (sizeI l)) ∧ Below w.heap.size w w' := by
 have hl := it_len hr
 have HR := Lib.hid hr
 have HL := Lib.hid hl
 have HX := Lib.hid hx
 clear hr hl hx
 go_enter Tryz.func145, Tryz.ntmps145
 go_wp2_with fail
 go_loopw [3, 5, 8] (fun s p i wr => ∃ k : Nat, k ≤ n ∧ i = .int .i64 k ∧ s = .int .i64 (sizeI (l.take k)) ∧ Hid (Below w.heap.size w wr)) (fun _ _ i _ => n - (intOf i).toNat)
 case atStart => exact ⟨0, Nat.zero_le _, rfl, by simp [sizeI], Lib.hid (Below.refl _ _)⟩
 case round =>
  obtain ⟨k, hk, rfl, rfl, HB⟩ := hrel
  by_cases hlt : k < n
  ·obtain ⟨ad, x, rfl, _, hp, hx, hc⟩ := it_at HR.out hlt
   obtain ⟨c0, c1, c2, c3, c4⟩ := hc.below HB.out hp
   have hk0 : (0 : Int) ≤ k := by omega
   have hk1 : (k : Int) < n := by omega
   have hsz := sizeI_take_succ hx
   have hle := sizeI_take_le l (k + 1)
   have hks : sizeI (l.take k) + oneI x ≤ 9007199254740992 := by omega
   have HS := Lib.hid hsz
   have HB2 := Lib.hid (HB.out.alloc HB.out.size (.cells x.cells.toArray 76))
   obtain ⟨ky, vl, ov, ln, hd⟩ := x
   dsimp only [It.cells] at HB2
   clear hx hsz hle hc hp
   cases ov
   ·have ho : oneI ⟨ky, vl, false, ln, hd⟩ = 3 + ky.size + vl.size := rfl
    have hadd : ((sizeI (l.take k) : Nat) : Int) + (2 + (ky.size : Int)) + (1 + (vl.size : Int)) = ((sizeI (l.take (k + 1)) : Nat) : Int) := by rw [HS.out, ho]; omega
    rw [ho] at hks
    have HA := Lib.hid hadd
    clear hadd ho HS
    go_wp2_with fail
    go_roundw
    case rel =>
     have hadd := HA.out
     first
      | exact ⟨k + 1, by omega, by go_num, by rw [hadd], HB2⟩
      | ((repeat apply Exists.intro); exact ⟨⟨k + 1, by omega, by go_num, by rw [hadd], HB2⟩, rfl⟩)
    case measure => simp [intOf]; omega
   ·have ho : oneI ⟨ky, vl, true, ln, hd⟩ = 10 + ky.size := rfl
    have hadd : ((sizeI (l.take k) : Nat) : Int) + (2 + (ky.size : Int)) + 8 = ((sizeI (l.take (k + 1)) : Nat) : Int) := by rw [HS.out, ho]; omega
    rw [ho] at hks
    have HA := Lib.hid hadd
    clear hadd ho HS
    go_wp2_with fail
    go_roundw
    case rel =>
     have hadd := HA.out
     first
      | exact ⟨k + 1, by omega, by go_num, by rw [hadd], HB2⟩
      | ((repeat apply Exists.intro); exact ⟨⟨k + 1, by omega, by go_num, by rw [hadd], HB2⟩, rfl⟩)
    case measure => simp [intOf]; omega
  ·obtain rfl : k = n := by omega
   have ht : l.take k = l := List.take_of_length_le (by rw [HL.out]; exact Nat.le_refl _)
   rw [ht]
   clear hlt
   go_wp2
   go_ret
   exact ⟨rfl, HB.out⟩
end Go.Proofs.YtmmjckokjmpfpaaGreat

namespace Go.Proofs.YtmmjckokjmpfpaaGreat
open Go.RowKit
open Go.Lib hiding intOf
attribute [local go_sem ↓] Go.wp_at_zero Go.wp_at_succ

set_option maxRecDepth 100000 in
set_option maxHeartbeats 12800000 in
theorem lvalid_any (A : Option Addr) (n c : Nat) (l : List It) (w : World) (hr : Reads w w.heap.size 5 A n (itc l)) (hn : n ≤ 2513169434916) :
  Calls Tryz.prog 144 #[.slice A n c] w fun e w' => e = .returned (.bool (mayI l)) ∧ Below w.heap.size w w' := by
 have HL := Lib.hid (it_len hr)
 have HR := Lib.hid hr
 clear hr
 go_enter Tryz.func144, Tryz.ntmps144
 go_wp2_with fail
 go_loopw [3, 6] (fun _ i wr => ∃ k : Nat, k ≤ n ∧ i = .int .i64 k ∧ Hid (∀ j, j < k → okAtI l j = true) ∧ Hid (Below w.heap.size w wr)) (fun _ i _ => n - (intOf i).toNat)
 case atStart => exact ⟨0, Nat.zero_le _, rfl, Lib.hid fun j hj => absurd hj (by omega), Lib.hid (Below.refl _ _)⟩
 case round =>
  obtain ⟨k, hk, rfl, HF, HB⟩ := hrel
  by_cases hlt : k < n
  ·obtain ⟨ad, x, rfl, _, hp, hx, hc⟩ := it_at HR.out hlt
   have HP := Lib.hid hp
   have hk0 : (0 : Int) ≤ k := by omega
   have hk1 : (k : Int) < n := by omega
   have HX := Lib.hid hx
   have hkl : k < l.length := by rw [HL.out]; exact hlt
   have HM := fun w => litem_any x w
   have HC := Lib.hid (show ItAt wr.drew (ad.add (k * 5)) x from ItAt.below (w' := wr) hc HB.out hp)
   have HBd := Lib.hid HB.out.drew
   go_upto_region 4 with fail
   clear hx hp
   rcases hok : okIt x with _ | _
   ·have HE := Lib.hid (show mayI l = false by rw [mayI, allOkI_no hkl (by rw [okAtI_of HX.out, hok]; rfl)]; rfl)
    rw [hok] at HM
    clear hkl hok hc
    refine wp_region_held_drew (S := (fun w' => w'.cell? (ad.add (k * 5)) = some (.string x.ky) ∧ w'.cell? ⟨(ad.add (k * 5)).block, (ad.add (k * 5)).off + 1, none⟩ = some (.string x.vl) ∧ w'.cell? ⟨(ad.add (k * 5)).block, (ad.add (k * 5)).off + 2, none⟩ = some (.bool x.ov) ∧ w'.cell? ⟨(ad.add (k * 5)).block, (ad.add (k * 5)).off + 3, none⟩ = some (.int .i64 x.ln) ∧ w'.cell? ⟨(ad.add (k * 5)).block, (ad.add (k * 5)).off + 4, none⟩ = some (.int .u32 x.hd))) (by kernel_rfl) (HC.out) (fun hHeld => ?_)
    refine tkA (i := 0) ?_
    try simp only [tkP]
    refine tkA (i := 1) ?_
    try simp only [tkP]
    refine tkA (i := 2) ?_
    try simp only [tkP]
    refine tkA (i := 3) ?_
    try simp only [tkP]
    refine wpAnyH_ready (rs := [4]) (by kernel_rfl) (by simp) ?_
    refine tkC (fun K hK => ?_)
    go_simp
    refine (HM _).mono ?_
    rintro e w2 ⟨rfl, hb⟩
    replace HC := Lib.hid (HC.out.below hb (Nat.lt_of_lt_of_le HP.out HBd.out.size))
    replace HBd := Lib.hid (HBd.out.trans (hb.mono HBd.out.size))
    clear hb
    refine hK.out _ _ (HC.out) (fun hHeld => ?_)
    clear hK K
    try simp only [tkP]
    refine tkA (i := 5) ?_
    try simp only [tkP]
    refine tkA (i := 6) ?_
    try simp only [tkP]
    refine tkU (i := 7) ?_
    try simp only [tkP]
    refine tkU (i := 8) ?_
    try simp only [tkP]
    refine tkU (i := 9) ?_
    try simp only [tkP]
    refine tkU (i := 10) ?_
    try simp only [tkP]
    refine tkU (i := 11) ?_
    try simp only [tkP]
    refine tkU (i := 12) ?_
    try simp only [tkP]
    refine tkU (i := 13) ?_
    try simp only [tkP]
    refine tkU (i := 14) ?_
    try simp only [tkP]
    refine tkU (i := 15) ?_
    try simp only [tkP]
    refine tkU (i := 16) ?_
    try simp only [tkP]
    refine tkU (i := 17) ?_
    try simp only [tkP]
    refine tkU (i := 18) ?_
    try simp only [tkP]
    refine tkU (i := 19) ?_
    try simp only [tkP]
    refine tkU (i := 20) ?_
    try simp only [tkP]
    refine tkU (i := 21) ?_
    try simp only [tkP]
    refine tkU (i := 22) ?_
    try simp only [tkP]
    refine tkA (i := 23) ?_
    try simp only [tkP]
    refine wpAnyH_done (by kernel_rfl) ?_ _
    go_wp2_with fail
    go_ret
    exact ⟨by rw [HE.out]; rfl, HBd.out⟩
   rw [hok] at HM
   by_cases hk00 : k = 0
   ·have HE := Lib.hid (show okAtI l k = true by rw [okAtI_of HX.out, hok, hk00]; rfl)
    have hk3 : decide ((k : Int) > 0) = false := by simp; omega
    have hk4 : decide (0 < k) = false := by simp; omega
    clear hk00 hok hkl hc
    refine wp_region_held_drew (S := (fun w' => w'.cell? (ad.add (k * 5)) = some (.string x.ky) ∧ w'.cell? ⟨(ad.add (k * 5)).block, (ad.add (k * 5)).off + 1, none⟩ = some (.string x.vl) ∧ w'.cell? ⟨(ad.add (k * 5)).block, (ad.add (k * 5)).off + 2, none⟩ = some (.bool x.ov) ∧ w'.cell? ⟨(ad.add (k * 5)).block, (ad.add (k * 5)).off + 3, none⟩ = some (.int .i64 x.ln) ∧ w'.cell? ⟨(ad.add (k * 5)).block, (ad.add (k * 5)).off + 4, none⟩ = some (.int .u32 x.hd))) (by kernel_rfl) (HC.out) (fun hHeld => ?_)
    refine tkA (i := 0) ?_
    try simp only [tkP]
    refine tkA (i := 1) ?_
    try simp only [tkP]
    refine tkA (i := 2) ?_
    try simp only [tkP]
    refine tkA (i := 3) ?_
    try simp only [tkP]
    refine wpAnyH_ready (rs := [4]) (by kernel_rfl) (by simp) ?_
    refine tkC (fun K hK => ?_)
    go_simp
    refine (HM _).mono ?_
    rintro e w2 ⟨rfl, hb⟩
    replace HC := Lib.hid (HC.out.below hb (Nat.lt_of_lt_of_le HP.out HBd.out.size))
    replace HBd := Lib.hid (HBd.out.trans (hb.mono HBd.out.size))
    clear hb
    refine hK.out _ _ (HC.out) (fun hHeld => ?_)
    clear hK K
    try simp only [tkP]
    refine tkA (i := 5) ?_
    try simp only [tkP]
    refine tkA (i := 6) ?_
    try simp only [tkP]
    refine tkA (i := 7) ?_
    try simp only [tkP]
    refine tkA (i := 8) ?_
    try simp only [tkP]
    refine tkA (i := 9) ?_
    try simp only [tkP]
    refine tkU (i := 10) ?_
    try simp only [tkP]
    refine tkU (i := 11) ?_
    try simp only [tkP]
    refine tkU (i := 12) ?_
    try simp only [tkP]
    refine tkU (i := 13) ?_
    try simp only [tkP]
    refine tkU (i := 14) ?_
    try simp only [tkP]
    refine tkU (i := 15) ?_
    try simp only [tkP]
    refine tkU (i := 16) ?_
    try simp only [tkP]
    refine tkU (i := 17) ?_
    try simp only [tkP]
    refine tkU (i := 18) ?_
    try simp only [tkP]
    refine tkU (i := 19) ?_
    try simp only [tkP]
    refine tkU (i := 20) ?_
    try simp only [tkP]
    refine tkU (i := 21) ?_
    try simp only [tkP]
    refine tkA (i := 22) ?_
    try simp only [tkP]
    refine tkA (i := 23) ?_
    try simp only [tkP]
    refine wpAnyH_done (by kernel_rfl) ?_ _
    have HF' := Lib.hid (fun j (hj : j < k + 1) => show okAtI l j = true from by
     by_cases hjk : j < k
     ·exact HF.out j hjk
     ·have e : j = k := by omega
      rw [e]; exact HE.out)
    go_wp2_with fail
    go_roundw
    case rel =>
     first
      | exact ⟨k + 1, by omega, by go_num, HF', HBd⟩
      | ((repeat apply Exists.intro); exact ⟨⟨k + 1, by omega, by go_num, HF', HBd⟩, rfl⟩)
    case measure => simp [intOf]; omega
   obtain ⟨j, hkj⟩ : ∃ j, k = j + 1 := ⟨k - 1, by omega⟩
   obtain ⟨ad', y, had, _, hpy, hy, hcy⟩ := it_at HR.out (show j < n by omega)
   injection had with had
   subst had
   have HPY := Lib.hid hpy
   have HY := Lib.hid (show wr.drew.cell? (ad.add (j * 5)) = some (.string y.ky) from (ItAt.below (w' := wr) hcy HB.out hpy).1)
   have hj1 : IntKind.i64.wrap ((k : Int) - 1) = (j : Int) := by rw [IntKind.wrap_i64]; omega
   have hj2 : (k : Int) - 1 = (j : Int) := by omega
   have hj5 : IntKind.i64.wrap (j : Int) = (j : Int) := by rw [IntKind.wrap_i64]; omega
   have hj3 : (0 : Int) ≤ j := by omega
   have hj4 : (j : Int) < n := by omega
   have hk3 : decide ((k : Int) > 0) = true := by simp; omega
   have hk4 : decide (0 < k) = true := by simp; omega
   have hle : (Op.bytesLess x.ky.toList y.ky.toList || x.ky.toList == y.ky.toList) = !Op.bytesLess y.ky.toList x.ky.toList := leq_not _ _
   have hat : okAtI l k = Op.bytesLess y.ky.toList x.ky.toList := by rw [okAtI_of HX.out, hok, hkj]; simp [hy]
   rcases hless : Op.bytesLess y.ky.toList x.ky.toList with _ | _
   ·have HE := Lib.hid (show mayI l = false by rw [mayI, allOkI_no hkl (by rw [hat, hless])]; rfl)
    rw [hless] at hle
    clear hat hkl hok hy hkj hk00 hcy hpy hc
    refine wp_region_held_drew (S := (fun w' => (w'.cell? (ad.add (k * 5)) = some (.string x.ky) ∧ w'.cell? ⟨(ad.add (k * 5)).block, (ad.add (k * 5)).off + 1, none⟩ = some (.string x.vl) ∧ w'.cell? ⟨(ad.add (k * 5)).block, (ad.add (k * 5)).off + 2, none⟩ = some (.bool x.ov) ∧ w'.cell? ⟨(ad.add (k * 5)).block, (ad.add (k * 5)).off + 3, none⟩ = some (.int .i64 x.ln) ∧ w'.cell? ⟨(ad.add (k * 5)).block, (ad.add (k * 5)).off + 4, none⟩ = some (.int .u32 x.hd)) ∧ w'.cell? (ad.add (j * 5)) = some (.string y.ky))) (by kernel_rfl) (⟨HC.out, HY.out⟩) (fun hHeld => ?_)
    refine tkA (i := 0) ?_
    try simp only [tkP]
    refine tkA (i := 1) ?_
    try simp only [tkP]
    refine tkA (i := 2) ?_
    try simp only [tkP]
    refine tkA (i := 3) ?_
    try simp only [tkP]
    refine wpAnyH_ready (rs := [4]) (by kernel_rfl) (by simp) ?_
    refine tkC (fun K hK => ?_)
    go_simp
    refine (HM _).mono ?_
    rintro e w2 ⟨rfl, hb⟩
    replace HC := Lib.hid (HC.out.below hb (Nat.lt_of_lt_of_le HP.out HBd.out.size))
    replace HY := Lib.hid ((hb.cell (p := ad.add (j * 5)) (Nat.lt_of_lt_of_le HPY.out HBd.out.size)).trans HY.out)
    replace HBd := Lib.hid (HBd.out.trans (hb.mono HBd.out.size))
    clear hb
    refine hK.out _ _ (⟨HC.out, HY.out⟩) (fun hHeld => ?_)
    clear hK K
    try simp only [tkP]
    refine tkA (i := 5) ?_
    try simp only [tkP]
    refine tkA (i := 6) ?_
    try simp only [tkP]
    refine tkA (i := 7) ?_
    try simp only [tkP]
    refine tkA (i := 8) ?_
    try simp only [tkP]
    refine tkA (i := 9) ?_
    try simp only [tkP]
    refine tkA (i := 10) ?_
    try simp only [tkP]
    refine tkA (i := 11) ?_
    try simp only [tkP]
    refine tkA (i := 12) ?_
    try simp only [tkP]
    refine tkA (i := 13) ?_
    try simp only [tkP]
    refine tkA (i := 14) ?_
    try simp only [tkP]
    refine tkA (i := 15) ?_
    try simp only [tkP]
    refine tkA (i := 16) ?_
    try simp only [tkP]
    refine tkA (i := 17) ?_
    try simp only [tkP]
    refine tkA (i := 18) ?_
    try simp only [tkP]
    refine tkA (i := 19) ?_
    try simp only [tkP]
    refine tkA (i := 20) ?_
    try simp only [tkP]
    refine tkA (i := 21) ?_
    try simp only [tkP]
    refine tkA (i := 22) ?_
    try simp only [tkP]
    refine tkA (i := 23) ?_
    try simp only [tkP]
    refine wpAnyH_done (by kernel_rfl) ?_ _
    go_wp2_with fail
    go_ret
    exact ⟨by rw [HE.out]; rfl, HBd.out⟩
   ·have HE := Lib.hid (show okAtI l k = true by rw [hat, hless])
    rw [hless] at hle
    clear hat hkl hok hy hkj hk00 hcy hpy hc
    refine wp_region_held_drew (S := (fun w' => (w'.cell? (ad.add (k * 5)) = some (.string x.ky) ∧ w'.cell? ⟨(ad.add (k * 5)).block, (ad.add (k * 5)).off + 1, none⟩ = some (.string x.vl) ∧ w'.cell? ⟨(ad.add (k * 5)).block, (ad.add (k * 5)).off + 2, none⟩ = some (.bool x.ov) ∧ w'.cell? ⟨(ad.add (k * 5)).block, (ad.add (k * 5)).off + 3, none⟩ = some (.int .i64 x.ln) ∧ w'.cell? ⟨(ad.add (k * 5)).block, (ad.add (k * 5)).off + 4, none⟩ = some (.int .u32 x.hd)) ∧ w'.cell? (ad.add (j * 5)) = some (.string y.ky))) (by kernel_rfl) (⟨HC.out, HY.out⟩) (fun hHeld => ?_)
    refine tkA (i := 0) ?_
    try simp only [tkP]
    refine tkA (i := 1) ?_
    try simp only [tkP]
    refine tkA (i := 2) ?_
    try simp only [tkP]
    refine tkA (i := 3) ?_
    try simp only [tkP]
    refine wpAnyH_ready (rs := [4]) (by kernel_rfl) (by simp) ?_
    refine tkC (fun K hK => ?_)
    go_simp
    refine (HM _).mono ?_
    rintro e w2 ⟨rfl, hb⟩
    replace HC := Lib.hid (HC.out.below hb (Nat.lt_of_lt_of_le HP.out HBd.out.size))
    replace HY := Lib.hid ((hb.cell (p := ad.add (j * 5)) (Nat.lt_of_lt_of_le HPY.out HBd.out.size)).trans HY.out)
    replace HBd := Lib.hid (HBd.out.trans (hb.mono HBd.out.size))
    clear hb
    refine hK.out _ _ (⟨HC.out, HY.out⟩) (fun hHeld => ?_)
    clear hK K
    try simp only [tkP]
    refine tkA (i := 5) ?_
    try simp only [tkP]
    refine tkA (i := 6) ?_
    try simp only [tkP]
    refine tkA (i := 7) ?_
    try simp only [tkP]
    refine tkA (i := 8) ?_
    try simp only [tkP]
    refine tkA (i := 9) ?_
    try simp only [tkP]
    refine tkA (i := 10) ?_
    try simp only [tkP]
    refine tkA (i := 11) ?_
    try simp only [tkP]
    refine tkA (i := 12) ?_
    try simp only [tkP]
    refine tkA (i := 13) ?_
    try simp only [tkP]
    refine tkA (i := 14) ?_
    try simp only [tkP]
    refine tkA (i := 15) ?_
    try simp only [tkP]
    refine tkA (i := 16) ?_
    try simp only [tkP]
    refine tkA (i := 17) ?_
    try simp only [tkP]
    refine tkA (i := 18) ?_
    try simp only [tkP]
    refine tkA (i := 19) ?_
    try simp only [tkP]
    refine tkA (i := 20) ?_
    try simp only [tkP]
    refine tkA (i := 21) ?_
    try simp only [tkP]
    refine tkA (i := 22) ?_
    try simp only [tkP]
    refine tkA (i := 23) ?_
    try simp only [tkP]
    refine wpAnyH_done (by kernel_rfl) ?_ _
    clear hj1 hj2 hj5
    have HF' := Lib.hid (fun j (hj : j < k + 1) => show okAtI l j = true from by
     by_cases hjk : j < k
     ·exact HF.out j hjk
     ·have e : j = k := by omega
      rw [e]; exact HE.out)
    go_wp2_with fail
    go_roundw
    case rel =>
     first
      | exact ⟨k + 1, by omega, by go_num, HF', HBd⟩
      | ((repeat apply Exists.intro); exact ⟨⟨k + 1, by omega, by go_num, HF', HBd⟩, rfl⟩)
    case measure => simp [intOf]; omega
  ·obtain rfl : k = n := by omega
   have ha : allOkI l = true := allOkI_yes fun j hj => HF.out j (by rw [← HL.out]; exact hj)
   have HE := Lib.hid (show mayI l = decide (0 < k) by rw [mayI, ha, HL.out]; rfl)
   clear ha hlt
   go_wp2_with fail
   go_ret
   exact ⟨by rw [HE.out]; rfl, HB.out⟩
end Go.Proofs.YtmmjckokjmpfpaaGreat

