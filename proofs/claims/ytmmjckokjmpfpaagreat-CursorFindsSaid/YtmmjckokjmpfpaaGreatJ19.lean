/-
  Texts that the main proof rests on, put together: Ref8May, La, Kept. No statement is proved here.
-/
import Derived.Test.YtmmjckokjmpfpaaGreatJ11
import Derived.Test.YtmmjckokjmpfpaaGreatJ10
import Derived.Test.YtmmjckokjmpfpaaGreatJ8
import Derived.Deep.CutRange
import Derived.Deep.DrawnRows
import Derived.Deep.QuietTactic
import Derived.BigQuiet
import Derived.Lib.MinMax
import Derived.Test.YtmmjckokjmpfpaaGreatJ15
import Derived.Test.YtmmjckokjmpfpaaGreatJ18
import Derived.Test.YtmmjckokjmpfpaaGreatJ1
set_option linter.unusedVariables false
set_option linter.unusedSimpArgs false
namespace Go.Proofs.YtmmjckokjmpfpaaGreat
open Go.RowKit
open Go.Lib hiding intOf
attribute [local go_sem ↓] Go.wp_at_zero Go.wp_at_succ

def inB (z : Nat) (n : Int) : Bool := decide (0 ≤ n) && decide (n ≤ ((min (z / 8) 255 : Nat) : Int))
theorem rin_any (z : Nat) (n : Int) (w : World) (hz : (z : Int) ≤ 9223372036854775807) : Calls Tryz.prog 67 #[.int .i64 z, .int .i64 n] w fun e w' => e = .returned (.bool (inB z n)) ∧ w' = w := by
 by_cases h1 : 0 ≤ n
 ·have hm : ((min (z / 8) 255 : Nat) : Int) = min ((z : Int) / 8) 255 := by omega
  have hq : (z : Int).tdiv 8 = (z : Int) / 8 := by rw [Int.tdiv_eq_ediv_of_nonneg (by omega)]
  have hw : wrap64 ((z : Int) / 8) = (z : Int) / 8 := by
   have := wrap64_nat (z / 8) (by omega)
   simpa using this
  have HE := Lib.hid (show inB z n = decide (n ≤ min ((z : Int) / 8) 255) by rw [inB, hm, decide_eq_true h1, Bool.true_and])
  clear hm
  go_enter Tryz.func67, Tryz.ntmps67
  go_wp2
  go_ret
  exact ⟨by rw [HE.out]; rfl, rfl⟩
 ·have HE := Lib.hid (show inB z n = false by simp [inB, h1])
  go_enter Tryz.func67, Tryz.ntmps67
  go_wp2
  go_ret
  exact ⟨by rw [HE.out]; rfl, rfl⟩
theorem rone8_any (b : It) (w : World) (hs : b.ky.size ≤ 140737488351232) (hv : b.vl.size ≤ 140737488351232) : Calls Tryz.prog 96 #[.agg #[.string b.ky, .string b.vl, .bool b.ov, .int .i64 b.ln, .int .u32 b.hd]] w fun e w' => e = .returned (.int .i64 (oneI b)) ∧ Below w.heap.size w w' := by
 obtain ⟨ky, vl, ov, ln, hd⟩ := b
 cases ov
 ·have HE := Lib.hid (show ((oneI ⟨ky, vl, false, ln, hd⟩ : Nat) : Int) = 3 + (ky.size : Int) + (vl.size : Int) by simp [oneI])
  dsimp only at hs hv
  go_enter Tryz.func96, Tryz.ntmps96
  go_wp2
  go_ret
  exact ⟨by rw [HE.out]; rfl, (Below.refl _ _).alloc (Nat.le_refl _) _⟩
 ·have HE := Lib.hid (show ((oneI ⟨ky, vl, true, ln, hd⟩ : Nat) : Int) = 10 + (ky.size : Int) by simp [oneI])
  dsimp only at hs hv
  go_enter Tryz.func96, Tryz.ntmps96
  go_wp2
  go_ret
  exact ⟨by rw [HE.out]; rfl, (Below.refl _ _).alloc (Nat.le_refl _) _⟩
set_option maxRecDepth 100000 in
set_option maxHeartbeats 3200000 in
theorem rsize8_any (A : Option Addr) (n c : Nat) (l : List It) (w : World) (hr : Reads w w.heap.size 5 A n (itc l)) (hn : n ≤ maxLen) (hx : NearI l) (hs : sizeI l ≤ 9007199254740992) :
  Calls Tryz.prog 70 #[.slice A n c] w fun e w' => e = .returned (.int .i64 (sizeI l)) ∧ Below w.heap.size w w' := by
 have hl := it_len hr
 have HR := Lib.hid hr
 have HL := Lib.hid hl
 have HX := Lib.hid hx
 unfold maxLen at hn
 clear hr hl hx
 go_enter Tryz.func70, Tryz.ntmps70
 go_wp2_with fail
 go_loopw [3, 4] (fun s i wr => ∃ k : Nat, k ≤ n ∧ i = .int .i64 k ∧ s = .int .i64 (sizeI (l.take k)) ∧ Hid (Below w.heap.size w wr)) (fun _ i _ => n - (intOf i).toNat)
 case atStart => exact ⟨0, Nat.zero_le _, rfl, by simp [sizeI], Lib.hid (Below.refl _ _)⟩
 case round =>
  obtain ⟨k, hk, rfl, rfl, HB⟩ := hrel
  by_cases hlt : k < n
  ·obtain ⟨ad, x, rfl, _, hp, hx, hc⟩ := it_at HR.out hlt
   obtain ⟨hc0, hc1, hc2, hc3, hc4⟩ := hc.below HB.out hp
   have hk0 : (0 : Int) ≤ k := by omega
   have hk1 : (k : Int) < n := by omega
   have hsz := sizeI_take_succ hx
   have hle := sizeI_take_le l (k + 1)
   have hxx := HX.out x (List.mem_of_getElem? hx)
   have HS := Lib.hid hsz
   have hks : sizeI (l.take k) + oneI x ≤ 9007199254740992 := by omega
   have HO := fun w => rone8_any x w hxx.1 hxx.2
   clear hx hsz hle hxx
   go_wp2_with fail
   refine (HO _).mono ?_
   rintro e w1 ⟨rfl, hb⟩
   replace HB := Lib.hid (HB.out.trans (hb.mono HB.out.size))
   clear hb hc hc0 hc1 hc2 hc3 hc4 HO
   have hadd : ((sizeI (l.take k) : Nat) : Int) + ((oneI x : Nat) : Int) = ((sizeI (l.take (k + 1)) : Nat) : Int) := by rw [HS.out]; omega
   go_wp2
   go_roundw
   case rel =>
    first
     | exact ⟨k + 1, by omega, by go_num, by first | rfl | (rw [← hadd]; go_num), HB⟩
     | ((repeat apply Exists.intro); exact ⟨⟨k + 1, by omega, by go_num, by first | rfl | (rw [← hadd]; go_num), HB⟩, rfl⟩)
   case measure => simp [intOf]; omega
  ·obtain rfl : k = n := by omega
   have ht : l.take k = l := List.take_of_length_le (by rw [HL.out]; exact Nat.le_refl _)
   rw [ht]
   clear hlt
   go_wp2
   go_ret
   exact ⟨rfl, HB.out⟩
theorem okIt_in {b : It} (h : b.ov = false) : okIt b = (keyF b.ky && (decide (b.vl.size ≤ 255) && (decide (b.ln = 0) && decide (b.hd = 0)))) := by rw [okIt, if_neg (by rw [h]; decide)]
theorem okIt_ov {b : It} (h : b.ov = true) : okIt b = (keyF b.ky && (decide (b.vl.size = 0) && (decide (1 ≤ b.ln) && (decide (b.ln ≤ 4096) && numB b.hd)))) := by rw [okIt, if_pos h]
set_option maxRecDepth 100000 in
set_option maxHeartbeats 3200000 in
theorem rmayone_any (b : It) (w : World) : Calls Tryz.prog 111 #[.agg #[.string b.ky, .string b.vl, .bool b.ov, .int .i64 b.ln, .int .u32 b.hd]] w fun e w' => e = .returned (.bool (okIt b)) ∧ Below w.heap.size w w' := by
 obtain ⟨ky, vl, ov, ln, hd⟩ := b
 have HK := fun w => rkey_any ky w
 have HN := fun w => rnumB_any hd w
 have HB := Lib.hid ((Below.refl w.heap.size w).alloc (Nat.le_refl _) (.cells #[.string ky, .string vl, .bool ov, .int .i64 ln, .int .u32 hd] 76))
 have hvz : vl.toList.isEmpty = decide (vl.size = 0) := by
  rw [Bool.eq_iff_iff, List.isEmpty_iff_length_eq_zero, ByteArray.toList_eq, size_list, decide_eq_true_eq]
 cases ov
 ·clear hvz
  have hE := okIt_in (b := ⟨ky, vl, false, ln, hd⟩) rfl
  dsimp only at hE
  rcases hk : keyF ky with _ | _
  ·rw [hk] at HK hE
   have HE := Lib.hid hE
   clear hE hk
   go_enter Tryz.func111, Tryz.ntmps111
   go_wp2_with (go_at_call 81; refine (HK _).mono ?_; rintro e w' ⟨rfl, rfl⟩)
   go_ret
   exact ⟨by rw [HE.out]; rfl, HB.out⟩
  rw [hk] at HK hE
  by_cases h1 : vl.size ≤ 255
  rotate_left
  ·have h1' : decide ((vl.size : Int) ≤ 255) = false := by simp; omega
   rw [decide_eq_false h1] at hE
   have HE := Lib.hid hE
   clear hE hk h1
   go_enter Tryz.func111, Tryz.ntmps111
   go_wp2_with (go_at_call 81; refine (HK _).mono ?_; rintro e w' ⟨rfl, rfl⟩)
   go_ret
   exact ⟨by rw [HE.out]; rfl, HB.out⟩
  have h1' : decide ((vl.size : Int) ≤ 255) = true := by simp; omega
  rw [decide_eq_true h1] at hE
  by_cases h2 : ln = 0
  rotate_left
  ·have h2' : (ln == 0) = false := by simpa using h2
   rw [decide_eq_false h2] at hE
   have HE := Lib.hid hE
   clear hE hk h1 h2
   go_enter Tryz.func111, Tryz.ntmps111
   go_wp2_with (go_at_call 81; refine (HK _).mono ?_; rintro e w' ⟨rfl, rfl⟩)
   go_ret
   exact ⟨by rw [HE.out]; rfl, HB.out⟩
  have h2' : (ln == 0) = true := by simpa using h2
  rw [decide_eq_true h2] at hE
  have h3' : ((hd : Int) == 0) = decide (hd = 0) := by
   by_cases h3 : hd = 0
   ·simp [h3]
   ·simp [h3]
  have HE := Lib.hid hE
  have H3 := Lib.hid h3'
  clear hE hk h1 h2 h3'
  go_enter Tryz.func111, Tryz.ntmps111
  go_wp2_with (go_at_call 81; refine (HK _).mono ?_; rintro e w' ⟨rfl, rfl⟩)
  go_ret
  exact ⟨by rw [HE.out, ← H3.out]; rfl, HB.out⟩
 ·have hE := okIt_ov (b := ⟨ky, vl, true, ln, hd⟩) rfl
  dsimp only at hE
  rcases hk : keyF ky with _ | _
  ·rw [hk] at HK hE
   have HE := Lib.hid hE
   clear hE hk hvz
   go_enter Tryz.func111, Tryz.ntmps111
   go_wp2_with (go_at_call 81; refine (HK _).mono ?_; rintro e w' ⟨rfl, rfl⟩)
   go_ret
   exact ⟨by rw [HE.out]; rfl, HB.out⟩
  rw [hk] at HK hE
  by_cases h1 : vl.size = 0
  rotate_left
  ·rw [decide_eq_false h1] at hE hvz
   have HE := Lib.hid hE
   clear hE hk h1
   go_enter Tryz.func111, Tryz.ntmps111
   go_wp2_with (go_at_call 81; refine (HK _).mono ?_; rintro e w' ⟨rfl, rfl⟩)
   go_ret
   exact ⟨by rw [HE.out]; rfl, HB.out⟩
  rw [decide_eq_true h1] at hE hvz
  have hvn : vl.toList = [] := List.isEmpty_iff.1 hvz
  clear hvz
  by_cases h2 : 1 ≤ ln
  rotate_left
  ·have h2' : decide (1 ≤ ln) = false := decide_eq_false h2
   rw [h2'] at hE
   have HE := Lib.hid hE
   clear hE hk h1 h2
   go_enter Tryz.func111, Tryz.ntmps111
   go_wp2_with (go_at_call 81; refine (HK _).mono ?_; rintro e w' ⟨rfl, rfl⟩)
   go_ret
   exact ⟨by rw [HE.out]; rfl, HB.out⟩
  rw [decide_eq_true h2] at hE
  by_cases h3 : ln ≤ 4096
  rotate_left
  ·have h3' : decide (ln ≤ 4096) = false := decide_eq_false h3
   rw [h3'] at hE
   have HE := Lib.hid hE
   clear hE hk h1
   go_enter Tryz.func111, Tryz.ntmps111
   go_wp2_with (go_at_call 81; refine (HK _).mono ?_; rintro e w' ⟨rfl, rfl⟩)
   go_ret
   exact ⟨by rw [HE.out]; rfl, HB.out⟩
  rw [decide_eq_true h3] at hE
  have HE := Lib.hid hE
  clear hE hk h1
  go_enter Tryz.func111, Tryz.ntmps111
  go_wp2_with (first | (go_at_call 81; refine (HK _).mono ?_; rintro e w' ⟨rfl, rfl⟩) | (go_at_call 50; refine (HN _).mono ?_; rintro e w' ⟨rfl, rfl⟩))
  go_ret
  exact ⟨by rw [HE.out]; rfl, HB.out⟩
end Go.Proofs.YtmmjckokjmpfpaaGreat

namespace Go.Proofs.YtmmjckokjmpfpaaGreat
open Go.RowKit
open Go.Lib hiding intOf

def growT {α : Type} (sz : List α → Nat) (room : Nat) (l : List α) : Nat → Nat → Nat
 | 0, t => t
 | d + 1, t => if t < l.length ∧ sz (l.take (t + 1)) ≤ room then growT sz room l d (t + 1) else t
def cutG {α : Type} (sz : List α → Nat) (room : Nat) : Nat → List α → List (List α)
 | 0, _ => []
 | d + 1, l => if l = [] then [] else l.take (growT sz room l l.length 1) :: cutG sz room d (l.drop (growT sz room l l.length 1))
section
variable {α : Type} {sz : List α → Nat} {room : Nat}
theorem growT_ge (l : List α) : ∀ d t, t ≤ growT sz room l d t
 | 0, t => Nat.le_refl _
 | d + 1, t => by
  simp only [growT]
  split
  ·have := growT_ge l d (t + 1); omega
  ·exact Nat.le_refl _
theorem growT_step (l : List α) {d t : Nat} (h : t < l.length ∧ sz (l.take (t + 1)) ≤ room) : growT sz room l (d + 1) t = growT sz room l d (t + 1) := by simp only [growT, if_pos h]
theorem growT_end (l : List α) {d t : Nat} (h : ¬ (t < l.length ∧ sz (l.take (t + 1)) ≤ room)) : growT sz room l d t = t := by
 cases d with
 | zero => rfl
 | succ d => simp only [growT, if_neg h]
theorem growT_fits (l : List α) : ∀ d t, sz (l.take t) ≤ room → sz (l.take (growT sz room l d t)) ≤ room
 | 0, t, h => h
 | d + 1, t, h => by
  simp only [growT]
  split
  ·rename_i h2
   exact growT_fits l d (t + 1) h2.2
  ·exact h
theorem cutG_nil (d : Nat) : cutG sz room d ([] : List α) = [] := by cases d <;> simp [cutG]
theorem cutG_cons {d : Nat} {l : List α} (h : l ≠ []) : cutG sz room (d + 1) l = l.take (growT sz room l l.length 1) :: cutG sz room d (l.drop (growT sz room l l.length 1)) := by simp only [cutG, if_neg h]
theorem cutG_flat : ∀ (d : Nat) (l : List α), l.length ≤ d → (cutG sz room d l).flatten = l
 | 0, l, h => by
  have : l = [] := List.eq_nil_of_length_eq_zero (by omega)
  subst this
  simp [cutG]
 | d + 1, l, h => by
  by_cases hl : l = []
  ·subst hl; simp [cutG]
  ·rw [cutG_cons hl, List.flatten_cons, cutG_flat d _ (by
    rw [List.length_drop]
    have := growT_ge (sz := sz) (room := room) l l.length 1
    have : 0 < l.length := List.length_pos_iff.2 hl
    omega)]
   exact List.take_append_drop _ _
theorem cutG_ne : ∀ (d : Nat) (l : List α), ∀ p ∈ cutG sz room d l, p ≠ []
 | 0, l, p, h => by simp [cutG] at h
 | d + 1, l, p, h => by
  by_cases hl : l = []
  ·subst hl; simp [cutG] at h
  ·rw [cutG_cons hl] at h
   rcases List.mem_cons.1 h with rfl | h
   ·intro he
    have h1 : (l.take (growT sz room l l.length 1)).length = 0 := by rw [he]; rfl
    rw [List.length_take] at h1
    have := growT_ge (sz := sz) (room := room) l l.length 1
    have : 0 < l.length := List.length_pos_iff.2 hl
    omega
   ·exact cutG_ne d _ p h
theorem cutG_len : ∀ (d : Nat) (l : List α), (cutG sz room d l).length ≤ l.length
 | 0, l => by simp [cutG]
 | d + 1, l => by
  by_cases hl : l = []
  ·subst hl; simp [cutG]
  ·rw [cutG_cons hl, List.length_cons]
   have h1 := cutG_len d (l.drop (growT sz room l l.length 1))
   rw [List.length_drop] at h1
   have := growT_ge (sz := sz) (room := room) l l.length 1
   have : 0 < l.length := List.length_pos_iff.2 hl
   omega
theorem cutG_fits : ∀ (d : Nat) (l : List α), (∀ x ∈ l, sz [x] ≤ room) → ∀ p ∈ cutG sz room d l, sz p ≤ room
 | 0, l, _, p, h => by simp [cutG] at h
 | d + 1, l, h1, p, h => by
  by_cases hl : l = []
  ·subst hl; simp [cutG] at h
  ·rw [cutG_cons hl] at h
   rcases List.mem_cons.1 h with rfl | h
   ·refine growT_fits l _ _ ?_
    cases l with
    | nil => exact absurd rfl hl
    | cons x t => simpa using h1 x (by simp)
   ·exact cutG_fits d _ (fun x hx => h1 x (List.mem_of_mem_drop hx)) p h
end
def itemY (z : Nat) (L : List Pg) (p : Pr) : List Pg × It :=
 if inB z p.vl.size then (L, ⟨p.ky, p.vl, false, 0, 0⟩) else (L ++ (pagesL z 3 (2 + L.length) p.vl).getD [], ⟨p.ky, ⟨#[]⟩, true, p.vl.size, 2 + L.length⟩)
def itemsY (z : Nat) : List Pg → List Pr → List Pg × List It
 | L, [] => (L, [])
 | L, p :: t => ((itemsY z (itemY z L p).1 t).1, (itemY z L p).2 :: (itemsY z (itemY z L p).1 t).2)
theorem itemsY_snoc (z : Nat) : ∀ (l : List Pr) (L : List Pg) (p : Pr), itemsY z L (l ++ [p]) = ((itemY z (itemsY z L l).1 p).1, (itemsY z L l).2 ++ [(itemY z (itemsY z L l).1 p).2])
 | [], L, p => rfl
 | q :: l, L, p => by
  simp only [List.cons_append, itemsY]
  rw [itemsY_snoc z l]
theorem itemsY_len (z : Nat) : ∀ (l : List Pr) (L : List Pg), (itemsY z L l).2.length = l.length
 | [], L => rfl
 | q :: l, L => by simp [itemsY, itemsY_len z l]
def leafPg (z n : Nat) (l : List It) : Pg := ⟨4, l.length, n, 0, 3, itemBody z l⟩
def brPg (z n : Nat) (l : List Fk) : Pg := ⟨3, l.length, n, 0, 3, forkBody z l⟩
def leafPgs (z : Nat) : Nat → List (List It) → List Pg
 | _, [] => []
 | n, p :: t => leafPg z n p :: leafPgs z (n + 1) t
def brPgs (z : Nat) : Nat → List (List Fk) → List Pg
 | _, [] => []
 | n, p :: t => brPg z n p :: brPgs z (n + 1) t
def keyI (l : List It) : ByteArray := (l.head?.map (·.ky)).getD ⟨#[]⟩
def keyK (l : List Fk) : ByteArray := (l.head?.map (·.nm)).getD ⟨#[]⟩
def leafFks : Nat → List (List It) → List Fk
 | _, [] => []
 | n, p :: t => ⟨keyI p, n⟩ :: leafFks (n + 1) t
def brFks : Nat → List (List Fk) → List Fk
 | _, [] => []
 | n, p :: t => ⟨keyK p, n⟩ :: brFks (n + 1) t
def leafMay (z : Nat) : Nat → List (List It) → Bool
 | _, [] => true
 | n, p :: t => mayP8 z n 3 p && leafMay z (n + 1) t
theorem leafPgs_append (z : Nat) : ∀ (a b : List (List It)) (n : Nat), leafPgs z n (a ++ b) = leafPgs z n a ++ leafPgs z (n + a.length) b
 | [], b, n => rfl
 | p :: a, b, n => by simp [leafPgs, leafPgs_append z a b (n + 1), Nat.add_comm, Nat.add_left_comm]
theorem leafFks_append : ∀ (a b : List (List It)) (n : Nat), leafFks n (a ++ b) = leafFks n a ++ leafFks (n + a.length) b
 | [], b, n => rfl
 | p :: a, b, n => by simp [leafFks, leafFks_append a b (n + 1), Nat.add_comm, Nat.add_left_comm]
theorem brPgs_append (z : Nat) : ∀ (a b : List (List Fk)) (n : Nat), brPgs z n (a ++ b) = brPgs z n a ++ brPgs z (n + a.length) b
 | [], b, n => rfl
 | p :: a, b, n => by simp [brPgs, brPgs_append z a b (n + 1), Nat.add_comm, Nat.add_left_comm]
theorem brFks_append : ∀ (a b : List (List Fk)) (n : Nat), brFks n (a ++ b) = brFks n a ++ brFks (n + a.length) b
 | [], b, n => rfl
 | p :: a, b, n => by simp [brFks, brFks_append a b (n + 1), Nat.add_comm, Nat.add_left_comm]
theorem leafPgs_len (z : Nat) : ∀ (a : List (List It)) (n : Nat), (leafPgs z n a).length = a.length
 | [], _ => rfl
 | p :: a, n => by simp [leafPgs, leafPgs_len z a]
theorem leafFks_len : ∀ (a : List (List It)) (n : Nat), (leafFks n a).length = a.length
 | [], _ => rfl
 | p :: a, n => by simp [leafFks, leafFks_len a]
theorem brPgs_len (z : Nat) : ∀ (a : List (List Fk)) (n : Nat), (brPgs z n a).length = a.length
 | [], _ => rfl
 | p :: a, n => by simp [brPgs, brPgs_len z a]
theorem brFks_len : ∀ (a : List (List Fk)) (n : Nat), (brFks n a).length = a.length
 | [], _ => rfl
 | p :: a, n => by simp [brFks, brFks_len a]
theorem leafMay_append (z : Nat) : ∀ (a b : List (List It)) (n : Nat), leafMay z n (a ++ b) = (leafMay z n a && leafMay z (n + a.length) b)
 | [], b, n => by simp [leafMay]
 | p :: a, b, n => by simp [leafMay, leafMay_append z a b (n + 1), Nat.add_comm, Nat.add_left_comm, Bool.and_assoc]
def levelsY (z : Nat) : Nat → List Pg → List Fk → List Pg × List Fk
 | 0, L, F => (L, F)
 | d + 1, L, F => if F.length ≤ 1 then (L, F) else levelsY z d (L ++ brPgs z (2 + L.length) (cutG sizeF (z - 24) F.length F)) (brFks (2 + L.length) (cutG sizeF (z - 24) F.length F))
end Go.Proofs.YtmmjckokjmpfpaaGreat

namespace Go.Proofs.YtmmjckokjmpfpaaGreat
open Go.RowKit Go.Lib

structure Kept (F : Nat → Prop) (w w' : World) : Prop where
 os : w'.os = w.os
 tape : w'.tape = w.tape
 output : w'.output = w.output
 size : w.heap.size ≤ w'.heap.size
 block : ∀ k, k < w.heap.size → ¬ F k → w'.heap[k]? = w.heap[k]?

section
variable {F G : Nat → Prop} {a w w' : World} {B g : Nat} {t : TypeId} {cs : Array Value}
theorem Kept.refl (F : Nat → Prop) (w : World) : Kept F w w := ⟨rfl, rfl, rfl, Nat.le_refl _, fun _ _ _ => rfl⟩
theorem Kept.trans (h : Kept F a w) (k : Kept F w w') : Kept F a w' :=
 ⟨k.os.trans h.os, k.tape.trans h.tape, k.output.trans h.output, Nat.le_trans h.size k.size, fun i hi hn => (k.block i (Nat.lt_of_lt_of_le hi h.size) hn).trans (h.block i hi hn)⟩
theorem Kept.then (h : Kept F a w) (k : Kept G w w') (hG : ∀ i, G i → F i ∨ a.heap.size ≤ i) : Kept F a w' :=
 ⟨k.os.trans h.os, k.tape.trans h.tape, k.output.trans h.output, Nat.le_trans h.size k.size, fun i hi hn =>
  (k.block i (Nat.lt_of_lt_of_le hi h.size) (fun hg => by rcases hG i hg with h1 | h1; exact hn h1; omega)).trans (h.block i hi hn)⟩
theorem Kept.mono (h : Kept F w w') (hG : ∀ i, F i → G i) : Kept G w w' := ⟨h.os, h.tape, h.output, h.size, fun i hi hn => h.block i hi fun hf => hn (hG i hf)⟩
theorem Kept.of_below (h : Below B w w') (hF : ∀ k, B ≤ k → k < w.heap.size → F k) : Kept F w w' :=
 ⟨h.os, h.tape, h.output, h.size, fun i hi hn => h.block i (by rcases Nat.lt_or_ge i B with h1 | h1; exact h1; exact absurd (hF i h1 hi) hn)⟩
theorem Kept.of_new (h : Below w.heap.size w w') : Kept F w w' := Kept.of_below h fun k h1 h2 => by omega
theorem Kept.of_grown {row : Option Nat} (h : w.grownBy w' row) (hF : ∀ k, row = some k → F k) : Kept F w w' :=
 ⟨h.os, h.tape, h.output, h.size, fun i hi hn => h.block i hi fun e => hn (hF i e.symm)⟩
theorem Kept.drew (h : Kept F a w) : Kept F a w.drew := ⟨h.os, h.tape, h.output, h.size, h.block⟩
theorem Kept.alloc (h : Kept F a w) (o : Obj) : Kept F a (w.alloc o) := h.trans (Kept.of_new ((Below.refl _ _).alloc (Nat.le_refl _) o))
theorem Kept.setCell (h : Kept F a w) {p : Addr} (hp : F p.block ∨ a.heap.size ≤ p.block) (u : Value) : Kept F a (w.setCell p u) :=
 h.then (G := fun k => k = p.block) ⟨rfl, rfl, rfl, by simp [World.setCell], fun k hk hn => Below.heap_setCell _ _ _ _ hn⟩ (by rintro i rfl; exact hp)
theorem Kept.grown (h : Kept F a w) {row : Option Nat} (hg : w.grownBy w' row) (hr : ∀ k, row = some k → F k ∨ a.heap.size ≤ k) : Kept F a w' :=
 h.then (G := fun k => row = some k) (Kept.of_grown hg fun k e => e) hr
theorem Kept.below (h : Kept F w w') (hF : ∀ k, F k → B ≤ k) (hB : B ≤ w.heap.size) : Below B w w' :=
 ⟨h.os, h.tape, h.output, h.size, fun k hk => h.block k (by omega) fun hf => by have := hF k hf; omega⟩
theorem Kept.cell (h : Kept F w w') {p : Addr} (hp : p.block < w.heap.size) (hn : ¬ F p.block) : w'.cell? p = w.cell? p := World.cell?_of_block (h.block _ hp hn)
theorem Kept.blk (h : Kept F w w') (hb : Blk w g t cs) (hn : ¬ F g) : Blk w' g t cs := (h.block g hb.lt hn).trans hb
theorem Kept.own (h : Kept F w w') {base size n : Nat} {e : TypeId} {v : Value} {xs : List Value} (ho : w.ownsRow base e size v n xs) (hn : ∀ k, v.ownBlock = some k → ¬ F k) : w'.ownsRow base e size v n xs := by
 refine ⟨ho.1, ?_⟩
 rcases ho.2 with h0 | ⟨g, cap, cur, rfl, hb, hh, h1, h2, h3, h4⟩
 ·exact .inl h0
 ·have hlt : g < w.heap.size := (ho.lt g rfl).2
  exact .inr ⟨g, cap, cur, rfl, hb, (h.block g hlt (hn g rfl)).trans hh, h1, h2, h3, h4⟩
end

theorem own_ne_blk {w : World} {base size n g : Nat} {e t : TypeId} {v : Value} {xs : List Value} {cs : Array Value} (ho : w.ownsRow base e size v n xs) (hb : Blk w g t cs) (hne : e ≠ t) : v.ownBlock ≠ some g := by
 rcases ho.2 with ⟨rfl, _⟩ | ⟨g', cap, cur, rfl, _, hh, _⟩
 ·simp [Value.ownBlock]
 ·intro he
  have : g' = g := by simpa [Value.ownBlock] using he
  subst this
  exact Blk.ne_ (t := e) hh hb hne rfl
theorem own_ne_own {w : World} {base base' size size' n n' g : Nat} {e e' : TypeId} {v v' : Value} {xs xs' : List Value} (ho : w.ownsRow base e size v n xs) (ho' : w.ownsRow base' e' size' v' n' xs') (hne : e ≠ e') (hg : v.ownBlock = some g) : v'.ownBlock ≠ some g := by
 rcases ho.2 with ⟨rfl, _⟩ | ⟨g', cap, cur, rfl, _, hh, _⟩
 ·simp [Value.ownBlock] at hg
 ·have : g' = g := by simpa [Value.ownBlock] using hg
  subst this
  exact own_ne_blk ho' (t := e) hh (fun h => hne h.symm)
end Go.Proofs.YtmmjckokjmpfpaaGreat

