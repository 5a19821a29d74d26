/-
  Texts that the main proof rests on, put together: Ref8Of, Or, LePlain, LeRead. No statement is proved here.
-/
import Derived.Test.YtmmjckokjmpfpaaGreatJ16
import Derived.Test.YtmmjckokjmpfpaaGreatJ12
import Derived.Test.YtmmjckokjmpfpaaGreatJ3
import Derived.Deep.CutRange
import Derived.Deep.DrawnRows
import Derived.WalkMore
import Derived.Deep.RegionHeld3
set_option linter.unusedVariables false
set_option linter.unusedSimpArgs false
namespace Go.Proofs.YtmmjckokjmpfpaaGreat
open Go.RowKit
open Go.Lib hiding intOf
attribute [local go_sem ↓] Go.wp_at_zero Go.wp_at_succ

theorem infoIt : (Tryz.prog.info? 76).map (fun i => (i.zero, i.size, i.bytes)) = some (some (.agg #[.string ByteArray.empty, .string ByteArray.empty, .bool false, .int .i64 0, .int .u32 0]), 5, 56) := by kernel_rfl
theorem itc_one (l : List It) : ∀ u ∈ itc l, u.oneCell' = true := by
 intro u hu
 unfold itc rowsOf at hu
 obtain ⟨b, _, hb⟩ := List.mem_flatMap.1 hu
 simp [It.cells] at hb
 rcases hb with rfl | rfl | rfl | rfl | rfl <;> rfl
theorem it_one (b : It) : ∀ u ∈ b.cells, u.oneCell' = true := by
 intro u hu
 simp [It.cells] at hu
 rcases hu with rfl | rfl | rfl | rfl | rfl <;> rfl
theorem page8_neq_no (a0 a1 a2 a3 a4 : Int) (a5 : ByteArray) (w : World) : (binOp .neq 41 (.agg #[.int .i64 a0, .int .i64 a1, .int .u32 a2, .int .u32 a3, .int .u64 a4, .string a5]) (.agg #[.int .i64 a0, .int .i64 a1, .int .u32 a2, .int .u32 a3, .int .u64 a4, .string a5])).run Tryz.prog w = .ok (.bool false) w := by
 simp [go_sem]
theorem page8_neq_yes (a0 a1 a2 a3 a4 : Int) (a5 : ByteArray) (b0 b1 b2 b3 b4 : Int) (b5 : ByteArray) (w : World) (h : ¬ (a0 = b0 ∧ a1 = b1 ∧ a2 = b2 ∧ a3 = b3 ∧ a4 = b4 ∧ a5 = b5)) : (binOp .neq 41 (.agg #[.int .i64 a0, .int .i64 a1, .int .u32 a2, .int .u32 a3, .int .u64 a4, .string a5]) (.agg #[.int .i64 b0, .int .i64 b1, .int .u32 b2, .int .u32 b3, .int .u64 b4, .string b5])).run Tryz.prog w = .ok (.bool true) w := by
 have h1 : (((((a0 == b0 && a1 == b1) && a2 == b2) && a3 == b3) && a4 == b4) && a5.toList == b5.toList) = false := by
  rw [Bool.eq_false_iff]
  intro ht
  simp only [Bool.and_eq_true, beq_iff_eq] at ht
  obtain ⟨⟨⟨⟨⟨h0, h1⟩, h2⟩, h3⟩, h4⟩, h5⟩ := ht
  rw [ByteArray.toList_eq, ByteArray.toList_eq] at h5
  exact h ⟨h0, h1, h2, h3, h4, bytes_ext h5⟩
 simp [go_sem] at h1 ⊢
 exact h1
theorem list_none {t : ByteArray} (h : t.size < 1) : t.data.toList = [] := List.eq_nil_of_length_eq_zero (by rw [size_list]; omega)
theorem head8 {s t0 t1 t2 ky : ByteArray} {vo vn : Nat} {x0 x1 x2 : Int} (h0 : tookN 1 s vo x0 t0) (h1 : tookN 1 t0 vn x1 t1) (h2 : tookB vn t1 ky x2 t2) :
  (x0 = 0 ∧ x1 = 0 ∧ x2 = 0 ∧ vo < 256 ∧ stepI s.data.toList = tailI (UInt8.ofNat vo) ky t2.data.toList) ∨ (¬ (x0 = 0 ∧ x1 = 0 ∧ x2 = 0) ∧ stepI s.data.toList = none) := by
 rcases h0 with ⟨a0, rfl, e0, f0⟩ | ⟨a0, rfl, f0⟩
 rotate_left
 ·exact .inr ⟨by simp, by rw [list_none a0]; rfl⟩
 obtain ⟨o, r, hs⟩ := list_one (l := s.data.toList) (by rw [size_list]; exact a0)
 have hv : vo = o.toNat := by rw [e0, hs]; exact leNat_one o
 have hr : t0.data.toList = r := by rw [f0, ext_drop, hs]; rfl
 rcases h1 with ⟨a1, rfl, e1, f1⟩ | ⟨a1, rfl, f1⟩
 rotate_left
 ·have : r = [] := by rw [← hr]; exact list_none a1
  exact .inr ⟨by simp, by rw [hs, this]; rfl⟩
 obtain ⟨n, q, hq⟩ := list_one (l := t0.data.toList) (by rw [size_list]; exact a1)
 have hn : vn = n.toNat := by rw [e1, hq]; exact leNat_one n
 have hq1 : t1.data.toList = q := by rw [f1, ext_drop, hq]; rfl
 have hrq : r = n :: q := by rw [← hr, hq]
 have hl : t1.size = q.length := by rw [← hq1, size_list]
 rcases h2 with ⟨a2, rfl, e2, f2⟩ | ⟨a2, rfl, f2⟩
 rotate_left
 ·refine .inr ⟨by simp, ?_⟩
  rw [hs, hrq]
  simp only [stepI]
  rw [if_pos (by omega)]
 ·refine .inl ⟨rfl, rfl, rfl, by rw [hv]; exact o.toNat_lt, ?_⟩
  have h2' : t2.data.toList = q.drop n.toNat := by rw [f2, ext_drop, hq1, hn]
  have hky : ky = ⟨(q.take n.toNat).toArray⟩ := by
   apply bytes_ext
   rw [e2, ext_take, hq1, hn]
  rw [hs, hrq]
  simp only [stepI]
  rw [if_neg (by omega), h2', hky, hv]
  congr 1
  simp
theorem tail8_ov {t t3 t4 ky : ByteArray} {v3 v4 : Nat} {x3 x4 : Int} (h3 : tookN 4 t v3 x3 t3) (h4 : tookN 4 t3 v4 x4 t4) :
  (x3 = 0 ∧ x4 = 0 ∧ tailI 1 ky t.data.toList = some (⟨ky, ⟨#[]⟩, true, (v3 : Nat), v4⟩, t4.data.toList)) ∨ (¬ (x3 = 0 ∧ x4 = 0) ∧ tailI 1 ky t.data.toList = none) := by
 have hl : t.data.toList.length = t.size := size_list t
 rcases h3 with ⟨a3, rfl, e3, f3⟩ | ⟨a3, rfl, f3⟩
 rotate_left
 ·refine .inr ⟨by simp, ?_⟩
  unfold tailI
  rw [if_neg (by decide), if_pos rfl, if_pos (by omega)]
 have hl3 : t3.data.toList = t.data.toList.drop 4 := by rw [f3, ext_drop]
 have hs3 : t3.size = t.size - 4 := by rw [← size_list, hl3, List.length_drop, hl]
 rcases h4 with ⟨a4, rfl, e4, f4⟩ | ⟨a4, rfl, f4⟩
 rotate_left
 ·refine .inr ⟨by simp, ?_⟩
  unfold tailI
  rw [if_neg (by decide), if_pos rfl, if_pos (by omega)]
 ·refine .inl ⟨rfl, rfl, ?_⟩
  unfold tailI
  rw [if_neg (by decide), if_pos rfl, if_neg (by omega), e3, e4, f4, ext_drop, hl3]
theorem tail8_in {t t3 t4 ky vl : ByteArray} {v3 : Nat} {x3 x4 : Int} (h3 : tookN 1 t v3 x3 t3) (h4 : tookB v3 t3 vl x4 t4) :
  (x3 = 0 ∧ x4 = 0 ∧ tailI 0 ky t.data.toList = some (⟨ky, vl, false, 0, 0⟩, t4.data.toList)) ∨ (¬ (x3 = 0 ∧ x4 = 0) ∧ tailI 0 ky t.data.toList = none) := by
 rcases h3 with ⟨a3, rfl, e3, f3⟩ | ⟨a3, rfl, f3⟩
 rotate_left
 ·refine .inr ⟨by simp, ?_⟩
  rw [list_none a3]
  rfl
 obtain ⟨m, q, hq⟩ := list_one (l := t.data.toList) (by rw [size_list]; exact a3)
 have hm : v3 = m.toNat := by rw [e3, hq]; exact leNat_one m
 have hq1 : t3.data.toList = q := by rw [f3, ext_drop, hq]; rfl
 have hl : t3.size = q.length := by rw [← hq1, size_list]
 rcases h4 with ⟨a4, rfl, e4, f4⟩ | ⟨a4, rfl, f4⟩
 rotate_left
 ·refine .inr ⟨by simp, ?_⟩
  rw [hq]
  simp only [tailI, if_true]
  rw [if_pos (by omega)]
 ·refine .inl ⟨rfl, rfl, ?_⟩
  have hvl : vl = ⟨(q.take m.toNat).toArray⟩ := by
   apply bytes_ext
   rw [e4, ext_take, hq1, hm]
  rw [hq]
  simp only [tailI, if_true]
  rw [if_neg (by omega), f4, ext_drop, hq1, hm, hvl]
theorem grown_set (w : World) (g o : Nat) (v : Value) : w.grownBy (w.setCell ⟨g, o, none⟩ v) (some g) := ⟨rfl, rfl, rfl, by simp [World.setCell], fun k _ hne => Below.heap_setCell _ _ _ _ (fun e => hne (by rw [e]))⟩
def OfPost8 (o : Option (List It)) (w : World) (e : Ending) (w' : World) : Prop :=
 match o with
 | none => e = .returned (.tuple #[.slice none 0 0, .int .i64 4]) ∧ Below w.heap.size w w'
 | some l => ∃ A n c, e = .returned (.tuple #[.slice A n c, .int .i64 0]) ∧ Reads w' w'.heap.size 5 A n (itc l) ∧ n ≤ c ∧ c ≤ maxLen ∧ Below w.heap.size w w'
def OfPost8n (o : Option (List It)) (w : World) (e : Ending) (w' : World) : Prop :=
 match o with
 | none => e = .returned (.tuple #[.slice none 0 0, .int .i64 4]) ∧ Below w.heap.size w w'
 | some l => ∃ A n c, e = .returned (.tuple #[.slice A n c, .int .i64 0]) ∧ Reads w' w'.heap.size 5 A n (itc l) ∧ n ≤ c ∧ c ≤ maxLen ∧ Below w.heap.size w w' ∧ ∀ ad, A = some ad → w.heap.size ≤ ad.block
theorem OfPost8n.old {o : Option (List It)} {w : World} {e : Ending} {w' : World} (h : OfPost8n o w e w') : OfPost8 o w e w' := by
 cases o with
 | none => exact h
 | some l =>
  obtain ⟨A, n, c, h1, h2, h3, h4, h5, _⟩ := h
  exact ⟨A, n, c, h1, h2, h3, h4, h5⟩
end Go.Proofs.YtmmjckokjmpfpaaGreat

namespace Go.Proofs.YtmmjckokjmpfpaaGreat
open Go.RowKit
open Go.Lib
attribute [local go_sem ↓] Go.wp_at_zero Go.wp_at_succ

def orL : List Int → Int
 | [] => 0
 | x :: l => if x = 0 then orL l else x
theorem orL_drop {l : List Int} {k : Nat} (h : ∀ j y, j < k → l[j]? = some y → y = 0) : orL l = orL (l.drop k) := by
 induction k generalizing l with
 | zero => rfl
 | succ k ih =>
  cases l with
  | nil => rfl
  | cons x l =>
   rw [orL, if_pos (h 0 x (by omega) rfl), List.drop_succ_cons]
   exact ih fun j y hj hy => h (j + 1) y (by omega) (by simpa using hy)
def ecells (l : List Int) : List Value := l.map fun x => .int .i64 x
set_option maxRecDepth 100000 in
set_option maxHeartbeats 3200000 in
theorem cor_any (A : Option Addr) (n c : Nat) (l : List Int) (w : World) (hr : Reads w w.heap.size 1 A n (ecells l)) (hn : n ≤ 1000000) :
  Calls Tryz.prog 143 #[.slice A n c] w fun e w' => e = .returned (.int .i64 (orL l)) ∧ w' = w := by
 have hl : l.length = n := by have := hr.1; rw [ecells, List.length_map] at this; omega
 have HL := Lib.hid hl
 have HR := Lib.hid hr
 clear hr hl
 go_enter Tryz.func143, Tryz.ntmps143
 go_wp2_with fail
 go_loop [5, 8] (fun _ i => ∃ k : Nat, k ≤ n ∧ i = .int .i64 k ∧ Hid (∀ j y, j < k → l[j]? = some y → y = 0)) (fun _ i => n - (RowKit.intOf i).toNat)
 case atStart => exact ⟨0, Nat.zero_le _, rfl, Lib.hid fun j y hj => absurd hj (by omega)⟩
 case round =>
  obtain ⟨k, hk, rfl, HF⟩ := hrel
  by_cases hlt : k < n
  ·obtain ⟨ad, hA, hb, hcell⟩ := HR.out.2 (by omega)
   subst hA
   have hkl : k < l.length := by rw [HL.out]; exact hlt
   obtain ⟨x, hx⟩ : ∃ x, l[k]? = some x := ⟨l[k], List.getElem?_eq_getElem hkl⟩
   have hc := hcell k (.int .i64 x) (by rw [ecells, List.getElem?_map, hx]; rfl)
   have hc1 : w.cell? (ad.add (k * 1)) = some (.int .i64 x) := by rw [Nat.mul_one]; exact hc
   have hk0 : (0 : Int) ≤ k := by omega
   have hk1 : (k : Int) < n := by omega
   have HX := Lib.hid hx
   clear hx hcell hb hkl
   by_cases h0 : x = 0
   ·have h0' : (x == 0) = true := by simp [h0]
    have HF2 := Lib.hid (fun j y (hj : j < k + 1) (hy : l[j]? = some y) => show y = 0 from by
     by_cases hjk : j < k
     ·exact HF.out j y hjk hy
     ·have e : j = k := by omega
      rw [e, HX.out] at hy
      injection hy with hy
      rw [← hy]; exact h0)
    go_wp2_with fail
    go_round
    case rel =>
     first
      | exact ⟨k + 1, by omega, by go_num, HF2⟩
      | ((repeat apply Exists.intro); exact ⟨⟨k + 1, by omega, by go_num, HF2⟩, rfl⟩)
    case measure => simp [RowKit.intOf]; omega
   ·have h0' : (x == 0) = false := by simp [h0]
    have HE := Lib.hid (show orL l = x by
     rw [orL_drop HF.out]
     have hkl : k < l.length := (List.getElem?_eq_some_iff.1 HX.out).1
     have e : l[k] = x := (List.getElem?_eq_some_iff.1 HX.out).2
     rw [List.drop_eq_getElem_cons hkl, orL, e, if_neg h0])
    go_wp2_with fail
    go_ret
    exact ⟨by rw [HE.out]; rfl, rfl⟩
  ·obtain rfl : k = n := by omega
   have HE := Lib.hid (show orL l = 0 by
    rw [orL_drop HF.out, List.drop_of_length_le (by rw [HL.out]; exact Nat.le_refl _)]; rfl)
   clear hlt
   go_wp2_with fail
   go_ret
   exact ⟨by rw [HE.out]; rfl, rfl⟩
end Go.Proofs.YtmmjckokjmpfpaaGreat

namespace Go.Proofs.YtmmjckokjmpfpaaGreat
open Go.RowKit
open Go.Lib hiding intOf

def normK : List UInt8 → List UInt8
 | [] => []
 | o :: r => (if o = 1 then 1 else 0) :: r
def stepC (bs : List UInt8) : Option (It × List UInt8) := stepI (normK bs)
def parseC : Nat → List UInt8 → Option (List It × List UInt8)
 | 0, bs => some ([], bs)
 | k + 1, bs => match parseC k bs with
  | none => none
  | some (l, r) => match stepC r with
   | none => none
   | some (b, r') => some (l ++ [b], r')
theorem tailI_kind {o : UInt8} {ky : ByteArray} {r : List UInt8} {p : It × List UInt8} (h : tailI o ky r = some p) : o = 0 ∨ o = 1 := by
 unfold tailI at h
 by_cases h0 : o = 0
 ·exact .inl h0
 ·by_cases h1 : o = 1
  ·exact .inr h1
  ·rw [if_neg h0, if_neg h1] at h
   cases h
theorem stepC_of {bs : List UInt8} {p : It × List UInt8} (h : stepI bs = some p) : stepC bs = some p := by
 rcases bs with _ | ⟨o, bs⟩
 ·exact h
 rcases bs with _ | ⟨n, r⟩
 ·exact absurd h (by simp [stepI])
 have h2 := h
 simp only [stepI] at h2
 split at h2
 ·cases h2
 rcases tailI_kind h2 with rfl | rfl
 ·exact h
 ·exact h
theorem parseC_of : ∀ {k : Nat} {bs : List UInt8} {p : List It × List UInt8}, parseI k bs = some p → parseC k bs = some p
 | 0, bs, p, h => h
 | k + 1, bs, p, h => by
  simp only [parseI] at h
  split at h
  ·cases h
  ·rename_i l r hp
   split at h
   ·cases h
   ·rename_i b r' hs
    simp only [parseC, parseC_of hp, stepC_of hs]
    exact h
theorem parseC_len : ∀ {k : Nat} {bs : List UInt8} {l : List It} {r : List UInt8}, parseC k bs = some (l, r) → l.length = k
 | 0, bs, l, r, h => by simp [parseC] at h; obtain ⟨rfl, _⟩ := h; rfl
 | k + 1, bs, l, r, h => by
  simp only [parseC] at h
  split at h
  ·cases h
  ·rename_i l0 r0 hp
   split at h
   ·cases h
   ·injection h with h
    injection h with h1 h2
    rw [← h1, List.length_append, parseC_len hp]
    rfl
theorem normK_len (bs : List UInt8) : (normK bs).length = bs.length := by
 rcases bs with _ | ⟨o, r⟩ <;> rfl
theorem stepC_size {bs r : List UInt8} {b : It} (h : stepC bs = some (b, r)) : oneI b + r.length = bs.length := by
 have h1 := stepI_back h
 rw [← normK_len bs, h1, List.length_append, It.bytes_len]
theorem parseC_size : ∀ {k : Nat} {bs : List UInt8} {l : List It} {r : List UInt8}, parseC k bs = some (l, r) → sizeI l + r.length = bs.length
 | 0, bs, l, r, h => by simp [parseC] at h; obtain ⟨rfl, rfl⟩ := h; simp [sizeI]
 | k + 1, bs, l, r, h => by
  simp only [parseC] at h
  split at h
  ·cases h
  ·rename_i l0 r0 hp
   split at h
   ·cases h
   ·rename_i b r' hs
    injection h with h
    injection h with h1 h2
    subst h2
    rw [← h1, sizeI_snoc]
    have h3 := parseC_size hp
    have h4 := stepC_size hs
    omega
theorem parseC_step {k : Nat} {bs r r' : List UInt8} {l : List It} {b : It} (h : parseC k bs = some (l, r)) (hs : stepC r = some (b, r')) : parseC (k + 1) bs = some (l ++ [b], r') := by simp only [parseC, h, hs]
theorem parseC_stop {k : Nat} {bs r : List UInt8} {l : List It} (h : parseC k bs = some (l, r)) (hs : stepC r = none) : parseC (k + 1) bs = none := by simp only [parseC, h, hs]
theorem parseC_none {k : Nat} {bs : List UInt8} (h : parseC k bs = none) : ∀ d, parseC (k + d) bs = none
 | 0 => h
 | d + 1 => by rw [← Nat.add_assoc]; simp only [parseC, parseC_none h d]
theorem readI_unread {kd ct : Int} {pg lk ty : Nat} {bd : ByteArray} (h : parseC ct.toNat bd.data.toList = none) : readI kd ct pg lk ty bd = none := by
 rcases hp : parseI ct.toNat bd.data.toList with _ | p
 ·rw [readI, hp]
 ·rw [parseC_of hp] at h
  cases h
theorem readI_unfit {kd ct : Int} {pg lk ty : Nat} {bd : ByteArray} (h : ∀ l, mayP8 ((bd.size + 24 : Nat) : Int) pg ty l = false) : readI kd ct pg lk ty bd = none := by
 rcases hr : readI kd ct pg lk ty bd with _ | l
 ·rfl
 ·have h1 := (readI_some hr).1
  rw [h l] at h1
  cases h1
theorem readI_read {kd ct : Int} {pg lk ty : Nat} {bd : ByteArray} {l l' : List It} {r : List UInt8} (h : parseC ct.toNat bd.data.toList = some (l, r)) (hr : readI kd ct pg lk ty bd = some l') : l' = l := by
 rcases hp : parseI ct.toNat bd.data.toList with _ | ⟨q, r'⟩
 ·rw [readI, hp] at hr
  cases hr
 ·have h1 := parseC_of hp
  rw [h] at h1
  injection h1 with h1
  injection h1 with h1 _
  rw [readI, hp] at hr
  simp only at hr
  split at hr
  ·injection hr with hr
   rw [← hr, ← h1]
  ·cases hr
theorem orL_two (a b : Int) : orL [a, b] = 0 ↔ a = 0 ∧ b = 0 := by
 by_cases h : a = 0
 ·by_cases h2 : b = 0
  ·simp [orL, h, h2]
  ·simp [orL, h, h2]
 ·simp [orL, h]
theorem orL_three (a b c : Int) : orL [a, b, c] = 0 ↔ a = 0 ∧ b = 0 ∧ c = 0 := by
 by_cases h : a = 0
 ·by_cases h2 : b = 0
  ·by_cases h3 : c = 0
   ·simp [orL, h, h2, h3]
   ·simp [orL, h, h2, h3]
  ·simp [orL, h, h2]
 ·simp [orL, h]
theorem headC {s t0 t1 t2 ky : ByteArray} {vo vn : Nat} {x0 x1 x2 : Int} (h0 : tookN 1 s vo x0 t0) (h1 : tookN 1 t0 vn x1 t1) (h2 : tookB vn t1 ky x2 t2) :
  (x0 = 0 ∧ x1 = 0 ∧ x2 = 0 ∧ stepC s.data.toList = tailI (if vo = 1 then 1 else 0) ky t2.data.toList) ∨ (¬ (x0 = 0 ∧ x1 = 0 ∧ x2 = 0) ∧ stepC s.data.toList = none) := by
 rcases h0 with ⟨a0, rfl, e0, f0⟩ | ⟨a0, rfl, f0⟩
 rotate_left
 ·exact .inr ⟨by simp, by rw [list_none a0]; rfl⟩
 obtain ⟨o, r, hs⟩ := list_one (l := s.data.toList) (by rw [size_list]; exact a0)
 have hv : vo = o.toNat := by rw [e0, hs]; exact leNat_one o
 have hr : t0.data.toList = r := by rw [f0, ext_drop, hs]; rfl
 rcases h1 with ⟨a1, rfl, e1, f1⟩ | ⟨a1, rfl, f1⟩
 rotate_left
 ·have : r = [] := by rw [← hr]; exact list_none a1
  exact .inr ⟨by simp, by rw [hs, this]; rfl⟩
 obtain ⟨n, q, hq⟩ := list_one (l := t0.data.toList) (by rw [size_list]; exact a1)
 have hn : vn = n.toNat := by rw [e1, hq]; exact leNat_one n
 have hq1 : t1.data.toList = q := by rw [f1, ext_drop, hq]; rfl
 have hrq : r = n :: q := by rw [← hr, hq]
 have hl : t1.size = q.length := by rw [← hq1, size_list]
 rcases h2 with ⟨a2, rfl, e2, f2⟩ | ⟨a2, rfl, f2⟩
 rotate_left
 ·refine .inr ⟨by simp, ?_⟩
  rw [hs, hrq]
  simp only [stepC, normK, stepI]
  rw [if_pos (by omega)]
 ·refine .inl ⟨rfl, rfl, rfl, ?_⟩
  have h2' : t2.data.toList = q.drop n.toNat := by rw [f2, ext_drop, hq1, hn]
  have hky : ky = ⟨(q.take n.toNat).toArray⟩ := by
   apply bytes_ext
   rw [e2, ext_take, hq1, hn]
  have ho : (o = 1) ↔ (vo = 1) := by
   rw [hv]
   exact ⟨fun h => by rw [h]; rfl, fun h => by rw [← UInt8.toNat_inj]; exact h⟩
  rw [hs, hrq]
  simp only [stepC, normK, stepI]
  rw [if_neg (by omega), h2', hky]
  simp only [ho]
def itemOk (s : ByteArray) (b : It) (x : Int) (s' : ByteArray) : Prop := match stepC s.data.toList with
 | none => x ≠ 0
 | some (b', r) => x = 0 ∧ b' = b ∧ s'.data.toList = r
theorem item_ov {s t0 t1 t2 t3 t4 ky : ByteArray} {vn v3 v4 : Nat} {x0 x1 x2 x3 x4 : Int} (h0 : tookN 1 s 1 x0 t0) (h1 : tookN 1 t0 vn x1 t1) (h2 : tookB vn t1 ky x2 t2) (h3 : tookN 4 t2 v3 x3 t3) (h4 : tookN 4 t3 v4 x4 t4) :
  itemOk s ⟨ky, ⟨#[]⟩, true, (v3 : Nat), v4⟩ (orL [x0, orL [x1, x2], orL [x3, x4]]) t4 := by
 rcases headC h0 h1 h2 with ⟨rfl, rfl, rfl, hs⟩ | ⟨hx, hs⟩
 ·rw [if_pos rfl] at hs
  rcases tail8_ov (ky := ky) h3 h4 with ⟨rfl, rfl, ht⟩ | ⟨hx, ht⟩
  ·rw [itemOk, hs, ht]
   exact ⟨by simp [orL], rfl, rfl⟩
  ·rw [itemOk, hs, ht]
   intro h
   rw [orL_three, orL_two, orL_two] at h
   exact hx h.2.2
 ·rw [itemOk, hs]
  intro h
  rw [orL_three, orL_two, orL_two] at h
  exact hx ⟨h.1, h.2.1.1, h.2.1.2⟩
theorem item_in {s t0 t1 t2 t3 t4 ky vl : ByteArray} {vo vn v3 : Nat} {x0 x1 x2 x3 x4 : Int} (hv : vo ≠ 1) (h0 : tookN 1 s vo x0 t0) (h1 : tookN 1 t0 vn x1 t1) (h2 : tookB vn t1 ky x2 t2) (h3 : tookN 1 t2 v3 x3 t3) (h4 : tookB v3 t3 vl x4 t4) :
  itemOk s ⟨ky, vl, false, 0, 0⟩ (orL [x0, orL [x1, x2], orL [x3, x4]]) t4 := by
 rcases headC h0 h1 h2 with ⟨rfl, rfl, rfl, hs⟩ | ⟨hx, hs⟩
 ·rw [if_neg hv] at hs
  rcases tail8_in (ky := ky) h3 h4 with ⟨rfl, rfl, ht⟩ | ⟨hx, ht⟩
  ·rw [itemOk, hs, ht]
   exact ⟨by simp [orL], rfl, rfl⟩
  ·rw [itemOk, hs, ht]
   intro h
   rw [orL_three, orL_two, orL_two] at h
   exact hx h.2.2
 ·rw [itemOk, hs]
  intro h
  rw [orL_three, orL_two, orL_two] at h
  exact hx ⟨h.1, h.2.1.1, h.2.1.2⟩
theorem tookN_le {k : Nat} {t t' : ByteArray} {v : Nat} {x : Int} (h : tookN k t v x t') : t'.size ≤ t.size := by
 rcases h with ⟨_, _, _, rfl⟩ | ⟨_, _, rfl⟩
 ·rw [ByteArray.size_extract]; omega
 ·exact Nat.le_refl _
theorem tookB_le {k : Nat} {t v t' : ByteArray} {x : Int} (h : tookB k t v x t') : t'.size ≤ t.size := by
 rcases h with ⟨_, _, _, rfl⟩ | ⟨_, _, rfl⟩
 ·rw [ByteArray.size_extract]; omega
 ·exact Nat.le_refl _
end Go.Proofs.YtmmjckokjmpfpaaGreat

namespace Go.Proofs.YtmmjckokjmpfpaaGreat
open Go.RowKit
open Go.Lib hiding intOf
attribute [local go_sem ↓] Go.wp_at_zero Go.wp_at_succ

theorem gr_below {w w' : World} {r : Option Nat} (h : Below w.heap.size w w') : w.grownBy w' r := ⟨h.os, h.tape, h.output, h.size, fun k hk _ => h.block k hk⟩
theorem gr_own {a b c : World} {r r' : Option Nat} (h1 : a.grownBy b r) (h2 : b.grownBy c r') (h : ∀ k, r' = some k → a.heap.size ≤ k) : a.grownBy c r :=
 ⟨h2.os.trans h1.os, h2.tape.trans h1.tape, h2.output.trans h1.output, Nat.le_trans h1.size h2.size, fun k hk hne => (h2.block k (Nat.lt_of_lt_of_le hk h1.size) (fun he => by have := h k he.symm; omega)).trans (h1.block k hk hne)⟩
theorem lby_tot {w : World} {g : Nat} {t : ByteArray} (h : IsRd w g t) (k : Nat) :
  Calls Tryz.prog 162 #[.pointer (some ⟨g, 0, none⟩), .int .i64 k] w fun e w' => ∃ (v : ByteArray) (x : Int) (t' : ByteArray), e = .returned (.tuple #[.string v, .int .i64 x]) ∧ IsRd w' g t' ∧ w.grownBy w' (some g) ∧ tookB k t v x t' ∧ v.size ≤ t.size := by
 by_cases hk : k ≤ t.size
 ·refine (bytes_ok' h k hk).mono ?_
  rintro e w' ⟨rfl, hr, hg⟩
  exact ⟨_, _, _, rfl, hr, hg, .inl ⟨hk, rfl, rfl, rfl⟩, by rw [ByteArray.size_extract]; omega⟩
 ·refine (bytes_more h k (by omega)).mono ?_
  rintro e w' ⟨rfl, rfl⟩
  exact ⟨_, _, t, rfl, h, World.grownBy.refl _ _, .inr ⟨by omega, rfl, rfl⟩, Nat.zero_le _⟩
theorem infoItz : (Tryz.prog.info? 76).map (fun i => (i.zero, i.size)) = some (some (.agg #[.string ByteArray.empty, .string ByteArray.empty, .bool false, .int .i64 0, .int .u32 0]), 5) := by kernel_rfl
theorem load_it {w : World} {g : Nat} {a0 a1 a2 a3 a4 : Value} (h : Blk w g 76 #[a0, a1, a2, a3, a4]) : (loadVar 76 ⟨g, 0, none⟩).run Tryz.prog w = .ok (.agg #[a0, a1, a2, a3, a4]) w := by
 obtain ⟨hz, hi⟩ := zero_of_info infoItz
 exact run_loadVar_row w g 76 76 #[a0, a1, a2, a3, a4] (0, 0) _ h Tryz.underlying76 rfl hi
theorem five_at {w : World} {b : Nat} {t : TypeId} {z0 z1 z2 z3 z4 a0 a1 a2 a3 a4 : Value} (h : Blk w b t #[z0, z1, z2, z3, z4]) : Blk (((((w.setCell ⟨b, 0, none⟩ a0).setCell ⟨b, 1, none⟩ a1).setCell ⟨b, 2, none⟩ a2).setCell ⟨b, 3, none⟩ a3).setCell ⟨b, 4, none⟩ a4) b t #[a0, a1, a2, a3, a4] :=
 ((((h.set_ 0 a0).set_ 1 a1).set_ 2 a2).set_ 3 a3).set_ 4 a4
theorem five_far {w : World} {g b : Nat} {t : TypeId} {cs : Array Value} {a0 a1 a2 a3 a4 : Value} (h : Blk w g t cs) (hne : g ≠ b) : Blk (((((w.setCell ⟨b, 0, none⟩ a0).setCell ⟨b, 1, none⟩ a1).setCell ⟨b, 2, none⟩ a2).setCell ⟨b, 3, none⟩ a3).setCell ⟨b, 4, none⟩ a4) g t cs :=
 ((((h.far (p := ⟨b, 0, none⟩) hne a0).far (p := ⟨b, 1, none⟩) hne a1).far (p := ⟨b, 2, none⟩) hne a2).far (p := ⟨b, 3, none⟩) hne a3).far (p := ⟨b, 4, none⟩) hne a4
theorem five_grown {w0 w : World} {r : Option Nat} {b : Nat} {a0 a1 a2 a3 a4 : Value} (h : w0.grownBy w r) (hb : w0.heap.size ≤ b) : w0.grownBy (((((w.setCell ⟨b, 0, none⟩ a0).setCell ⟨b, 1, none⟩ a1).setCell ⟨b, 2, none⟩ a2).setCell ⟨b, 3, none⟩ a3).setCell ⟨b, 4, none⟩ a4) r :=
 grown_cell (grown_cell (grown_cell (grown_cell (grown_cell h (p := ⟨b, 0, none⟩) hb a0) (p := ⟨b, 1, none⟩) hb a1) (p := ⟨b, 2, none⟩) hb a2) (p := ⟨b, 3, none⟩) hb a3) (p := ⟨b, 4, none⟩) hb a4
set_option maxRecDepth 100000 in
set_option maxHeartbeats 3200000 in
theorem ltext_raw {w : World} {g : Nat} {s : ByteArray} (h : IsRd w g s) (hs : s.size ≤ 100000) :
  Calls Tryz.prog 140 #[.agg #[.pointer (some ⟨g, 0, none⟩)]] w fun e w' => ∃ (n : Nat) (x1 x2 : Int) (t1 v t2 : ByteArray), e = .returned (.tuple #[.string v, .int .i64 (orL [x1, x2])]) ∧ IsRd w' g t2 ∧ w.grownBy w' (some g) ∧ tookN 1 s n x1 t1 ∧ tookB n t1 v x2 t2 := by
 obtain ⟨w0, hw0⟩ : ∃ x, x = w.alloc (.cells #[.pointer (some ⟨g, 0, none⟩)] 197) := ⟨_, rfl⟩
 have Bx := Lib.hid (show Blk w0 w.heap.size 197 #[.pointer (some ⟨g, 0, none⟩)] by rw [hw0]; exact Blk.new _ _ _)
 have F := Lib.hid (show IsRd w0 g s by rw [hw0]; exact Blk.alloc h _)
 have G := Lib.hid (show w.grownBy w0 (some g) by rw [hw0]; exact World.grownBy_alloc _ _ _)
 have HNE := Lib.hid (show w.heap.size ≠ g by have := Blk.lt h; omega)
 have Hs := Lib.hid hs
 clear h hs
 go_enter Tryz.func140, Tryz.ntmps140
 go_upto_region 1 with fail
 rw [← hw0]
 clear hw0
 have b0 := Bx.out.cell 0
 simp at b0
 go_wp2_with fail
 refine (cnum_tot F.out 1 (by decide) (by decide)).mono ?_
 rintro e w1 ⟨n, x1, t1, rfl, hf, hg, hv, hx⟩
 replace Bx := Lib.hid (Blk.grown Bx.out hg (fun e => HNE.out (by injection e)))
 replace F := Lib.hid hf
 replace G := Lib.hid (grown_trans G.out hg)
 have X1 := Lib.hid hx
 have hv' : n < 256 := hv
 clear hf hg hx hv b0
 have hwv : IntKind.i64.wrap (n : Int) = (n : Int) := by rw [IntKind.wrap_i64]; omega
 have b0 := Bx.out.cell 0
 simp at b0
 go_wp2_with fail
 refine (lby_tot F.out n).mono ?_
 rintro e w2 ⟨v, x2, t2, rfl, hf, hg, hx, hvs⟩
 replace F := Lib.hid hf
 replace G := Lib.hid (grown_trans G.out hg)
 have X2 := Lib.hid hx
 have hv2 : v.size ≤ 281474976710656 := by
  have h1 := tookN_le X1.out
  have h2 := Hs.out
  omega
 clear hf hg hx hwv hv' b0 hvs
 go_wp2_with fail
 refine (sclone_any v _ hv2).mono ?_
 rintro e w3 ⟨rfl, hb⟩
 replace F := Lib.hid (show IsRd w3 g t2 from Blk.below F.out hb (Blk.lt F.out))
 replace G := Lib.hid (grown_trans G.out (gr_below hb))
 clear hb hv2
 have E := Lib.hid (show Reads (w3.alloc (.cells #[.int .i64 x1, .int .i64 x2] 28)) (w3.alloc (.cells #[.int .i64 x1, .int .i64 x2] 28)).heap.size 1 (some ⟨w3.heap.size, 0, none⟩) 2 (ecells [x1, x2]) from (reads_own (n := 2) (Blk.new w3 28 #[.int .i64 x1, .int .i64 x2]) rfl).more (by simp))
 replace F := Lib.hid (show IsRd (w3.alloc (.cells #[.int .i64 x1, .int .i64 x2] 28)) g t2 from Blk.alloc F.out _)
 replace G := Lib.hid (grown_trans G.out (World.grownBy_alloc w3 (.cells #[.int .i64 x1, .int .i64 x2] 28) _))
 go_wp2_with fail
 refine (cor_any _ 2 2 [x1, x2] _ E.out (by decide)).mono ?_
 rintro e wq ⟨rfl, rfl⟩
 go_wp2_with fail
 go_ret2
 exact ⟨n, x1, x2, t1, v, t2, rfl, F.out, G.out, X1.out, X2.out⟩
set_option maxRecDepth 100000 in
set_option maxHeartbeats 3200000 in
theorem lplace_raw {w : World} {g : Nat} {s : ByteArray} (h : IsRd w g s) (hs : s.size ≤ 100000) (ky : ByteArray) :
  Calls Tryz.prog 141 #[.agg #[.pointer (some ⟨g, 0, none⟩)], .string ky] w fun e w' => ∃ (n : Nat) (x1 x2 : Int) (t1 v t2 : ByteArray), e = .returned (.tuple #[.agg #[.string ky, .string v, .bool false, .int .i64 0, .int .u32 0], .int .i64 (orL [x1, x2])]) ∧ IsRd w' g t2 ∧ w.grownBy w' (some g) ∧ tookN 1 s n x1 t1 ∧ tookB n t1 v x2 t2 := by
 obtain ⟨hz, hi⟩ := zero_of_info infoItz
 have HI := Lib.hid hi
 clear hi
 obtain ⟨w0, hw0⟩ : ∃ x, x = (w.alloc (.cells #[.pointer (some ⟨g, 0, none⟩)] 197)).alloc (.cells #[.string ByteArray.empty, .string ByteArray.empty, .bool false, .int .i64 0, .int .u32 0] 76) := ⟨_, rfl⟩
 have Bx := Lib.hid (show Blk w0 w.heap.size 197 #[.pointer (some ⟨g, 0, none⟩)] by rw [hw0]; exact (Blk.new _ _ _).alloc _)
 have R0 := Lib.hid (show Blk w0 (w.heap.size + 1) 76 #[.string ByteArray.empty, .string ByteArray.empty, .bool false, .int .i64 0, .int .u32 0] by
  rw [hw0]
  have := Blk.new (w.alloc (.cells #[.pointer (some ⟨g, 0, none⟩)] 197)) 76 #[.string ByteArray.empty, .string ByteArray.empty, .bool false, .int .i64 0, .int .u32 0]
  simpa using this)
 have F := Lib.hid (show IsRd w0 g s by rw [hw0]; exact Blk.alloc (Blk.alloc h _) _)
 have G := Lib.hid (show w.grownBy w0 (some g) by rw [hw0]; exact grown_trans (World.grownBy_alloc _ _ _) (World.grownBy_alloc _ _ _))
 have HNE := Lib.hid (show w.heap.size + 1 ≠ g by have := Blk.lt h; omega)
 clear h
 go_enter Tryz.func141, Tryz.ntmps141
 go_upto_region 1 with fail
 rw [← hw0]
 clear hw0
 have b0 := Bx.out.cell 0
 simp at b0
 go_wp2_with fail
 refine (ltext_raw F.out hs).mono ?_
 rintro e w1 ⟨n, x1, x2, t1, v, t2, rfl, hf, hg, h1, h2⟩
 replace R0 := Lib.hid (Blk.grown R0.out hg (fun e => HNE.out (by injection e)))
 replace F := Lib.hid hf
 replace G := Lib.hid (grown_trans G.out hg)
 have X1 := Lib.hid h1
 have X2 := Lib.hid h2
 clear hf hg h1 h2 b0
 have k0 := R0.out.cell 0
 have k1 := R0.out.cell 1
 have k2 := R0.out.cell 2
 have k3 := R0.out.cell 3
 have k4 := R0.out.cell 4
 have f0 := R0.out.frozen 0
 have f1 := R0.out.frozen 1
 have f2 := R0.out.frozen 2
 have f3 := R0.out.frozen 3
 have f4 := R0.out.frozen 4
 simp at k0 k1 k2 k3 k4
 go_wp2_with fail
 exact bodyPost_ret (read_row rfl _ _ _ (w.heap.size + 1) #[.string ky, .string v, .bool false, .int .i64 0, .int .u32 0] rfl (load_it (five_at R0.out))) rfl ⟨n, x1, x2, t1, v, t2, rfl, five_far F.out (Ne.symm HNE.out), five_grown G.out (Nat.le_succ _), X1.out, X2.out⟩
set_option maxRecDepth 100000 in
set_option maxHeartbeats 3200000 in
theorem lover_raw {w : World} {g : Nat} {s : ByteArray} (h : IsRd w g s) (ky : ByteArray) :
  Calls Tryz.prog 142 #[.agg #[.pointer (some ⟨g, 0, none⟩)], .string ky] w fun e w' => ∃ (v3 v4 : Nat) (x3 x4 : Int) (t3 t4 : ByteArray), e = .returned (.tuple #[.agg #[.string ky, .string ByteArray.empty, .bool true, .int .i64 v3, .int .u32 v4], .int .i64 (orL [x3, x4])]) ∧ IsRd w' g t4 ∧ w.grownBy w' (some g) ∧ tookN 4 s v3 x3 t3 ∧ tookN 4 t3 v4 x4 t4 := by
 obtain ⟨hz, hi⟩ := zero_of_info infoItz
 have HI := Lib.hid hi
 clear hi
 obtain ⟨w0, hw0⟩ : ∃ x, x = (w.alloc (.cells #[.pointer (some ⟨g, 0, none⟩)] 197)).alloc (.cells #[.string ByteArray.empty, .string ByteArray.empty, .bool false, .int .i64 0, .int .u32 0] 76) := ⟨_, rfl⟩
 have Bx := Lib.hid (show Blk w0 w.heap.size 197 #[.pointer (some ⟨g, 0, none⟩)] by rw [hw0]; exact (Blk.new _ _ _).alloc _)
 have R0 := Lib.hid (show Blk w0 (w.heap.size + 1) 76 #[.string ByteArray.empty, .string ByteArray.empty, .bool false, .int .i64 0, .int .u32 0] by
  rw [hw0]
  have := Blk.new (w.alloc (.cells #[.pointer (some ⟨g, 0, none⟩)] 197)) 76 #[.string ByteArray.empty, .string ByteArray.empty, .bool false, .int .i64 0, .int .u32 0]
  simpa using this)
 have F := Lib.hid (show IsRd w0 g s by rw [hw0]; exact Blk.alloc (Blk.alloc h _) _)
 have G := Lib.hid (show w.grownBy w0 (some g) by rw [hw0]; exact grown_trans (World.grownBy_alloc _ _ _) (World.grownBy_alloc _ _ _))
 have HNE := Lib.hid (show w.heap.size + 1 ≠ g by have := Blk.lt h; omega)
 have HNF := Lib.hid (show w.heap.size ≠ g by have := Blk.lt h; omega)
 clear h
 go_enter Tryz.func142, Tryz.ntmps142
 go_upto_region 1 with fail
 rw [← hw0]
 clear hw0
 have b0 := Bx.out.cell 0
 simp at b0
 go_wp2_with fail
 refine (cnum_tot F.out 4 (by decide) (by decide)).mono ?_
 rintro e w1 ⟨v3, x3, t3, rfl, hf, hg, hv, hx⟩
 replace Bx := Lib.hid (Blk.grown Bx.out hg (fun e => HNF.out (by injection e)))
 replace R0 := Lib.hid (Blk.grown R0.out hg (fun e => HNE.out (by injection e)))
 replace F := Lib.hid hf
 replace G := Lib.hid (grown_trans G.out hg)
 have X3 := Lib.hid hx
 have hv3' : v3 < 4294967296 := hv
 clear hf hg hx hv b0
 have b0 := Bx.out.cell 0
 simp at b0
 go_wp2_with fail
 refine (cnum_tot F.out 4 (by decide) (by decide)).mono ?_
 rintro e w2 ⟨v4, x4, t4, rfl, hf, hg, hv, hx⟩
 replace R0 := Lib.hid (Blk.grown R0.out hg (fun e => HNE.out (by injection e)))
 replace F := Lib.hid hf
 replace G := Lib.hid (grown_trans G.out hg)
 have X4 := Lib.hid hx
 have hv4' : v4 < 4294967296 := hv
 clear hf hg hx hv b0
 have hw3 : IntKind.i64.wrap (v3 : Int) = (v3 : Int) := by rw [IntKind.wrap_i64]; omega
 have hw4 : IntKind.u32.wrap (v4 : Int) = (v4 : Int) := by rw [IntKind.wrap_u32]; omega
 have E := Lib.hid (show Reads (w2.alloc (.cells #[.int .i64 x3, .int .i64 x4] 28)) (w2.alloc (.cells #[.int .i64 x3, .int .i64 x4] 28)).heap.size 1 (some ⟨w2.heap.size, 0, none⟩) 2 (ecells [x3, x4]) from (reads_own (n := 2) (Blk.new w2 28 #[.int .i64 x3, .int .i64 x4]) rfl).more (by simp))
 replace R0 := Lib.hid (R0.out.alloc (.cells #[.int .i64 x3, .int .i64 x4] 28))
 replace F := Lib.hid (show IsRd (w2.alloc (.cells #[.int .i64 x3, .int .i64 x4] 28)) g t4 from Blk.alloc F.out _)
 replace G := Lib.hid (grown_trans G.out (World.grownBy_alloc w2 (.cells #[.int .i64 x3, .int .i64 x4] 28) _))
 go_wp2_with fail
 refine (cor_any _ 2 2 [x3, x4] _ E.out (by decide)).mono ?_
 rintro e wq ⟨rfl, rfl⟩
 have k0 := R0.out.cell 0
 have k1 := R0.out.cell 1
 have k2 := R0.out.cell 2
 have k3 := R0.out.cell 3
 have k4 := R0.out.cell 4
 have f0 := R0.out.frozen 0
 have f1 := R0.out.frozen 1
 have f2 := R0.out.frozen 2
 have f3 := R0.out.frozen 3
 have f4 := R0.out.frozen 4
 simp at k0 k1 k2 k3 k4
 clear hw3 hw4 hv3' hv4'
 go_wp2_with fail
 exact bodyPost_ret (read_row rfl _ _ _ (w.heap.size + 1) #[.string ky, .string ByteArray.empty, .bool true, .int .i64 v3, .int .u32 v4] rfl (load_it (five_at R0.out))) rfl ⟨v3, v4, x3, x4, t3, t4, rfl, five_far F.out (Ne.symm HNE.out), five_grown G.out (Nat.le_succ _), X3.out, X4.out⟩
end Go.Proofs.YtmmjckokjmpfpaaGreat

