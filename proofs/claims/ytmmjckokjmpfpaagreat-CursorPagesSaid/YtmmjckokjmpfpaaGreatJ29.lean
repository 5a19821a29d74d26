/-
  Texts that the main proof rests on, put together: OvOf, RoundQ. No statement is proved here.
-/
import Derived.Test.YtmmjckokjmpfpaaGreatJ28
import Derived.Test.YtmmjckokjmpfpaaGreatJ26
import Derived.Test.YtmmjckokjmpfpaaGreatJ3
import Derived.Deep.CutRange
import Derived.Deep.DrawnRows
import Derived.Sort.QuietIn
import Derived.Sort.BigQuietIn
import Derived.Sort.QuietThIn
import Derived.RangeFuncNested
import Derived.TacticsInMore
import Derived.Test.YtmmjckokjmpfpaaGreatProg
set_option linter.unusedVariables false
set_option linter.unusedSimpArgs false
namespace Go.Proofs.YtmmjckokjmpfpaaGreat
open Go.RowKit
open Go.Lib hiding intOf
attribute [local go_sem ↓] Go.wp_at_zero Go.wp_at_succ

set_option maxRecDepth 100000 in
set_option maxHeartbeats 12800000 in
theorem oof9_any (kd ct : Int) (pg lk ty : Nat) (bd : ByteArray) (w : World) (hbd : bd.size ≤ 100000) :
  Calls Tryz.prog 102 #[.agg #[.int .i64 kd, .int .i64 ct, .int .u32 pg, .int .u32 lk, .int .u64 ty, .string bd]] w (OfPost9 (readO kd ct pg lk ty bd) lk w) := by
 obtain ⟨w0, hw0⟩ : ∃ x, x = w.alloc (.cells #[.int .i64 kd, .int .i64 ct, .int .u32 pg, .int .u32 lk, .int .u64 ty, .string bd] 41) := ⟨_, rfl⟩
 have Pp := Lib.hid (show Blk w0 w.heap.size 41 #[.int .i64 kd, .int .i64 ct, .int .u32 pg, .int .u32 lk, .int .u64 ty, .string bd] by rw [hw0]; exact Blk.new _ _ _)
 have HB := Lib.hid (show Below w.heap.size w w0 by rw [hw0]; exact (Below.refl _ _).alloc (Nat.le_refl _) _)
 obtain ⟨hzp, hi⟩ := zero_of_info infoPg
 have HI := Lib.hid hi
 clear hi
 obtain ⟨o, ho⟩ : ∃ o, o = readO kd ct pg lk ty bd := ⟨_, rfl⟩
 rw [← ho]
 have HO := Lib.hid ho
 clear ho
 by_cases h1 : ct < 0
 ·have q1 : decide (ct < 0) = true := decide_eq_true h1
  obtain rfl : o = none := by rw [HO.out, readO, decide_eq_false (show ¬ 0 ≤ ct by omega)]; rfl
  go_enter Tryz.func102, Tryz.ntmps102
  go_upto_region 1 with fail
  rw [← hw0]
  clear hw0
  have p1 := Pp.out.cell 1
  have p5 := Pp.out.cell 5
  simp at p1 p5
  go_wp2_with fail
  go_ret3
  exact ⟨rfl, HB.out⟩
 obtain ⟨c, rfl⟩ := Int.eq_ofNat_of_zero_le (by omega : 0 ≤ ct)
 by_cases h2 : c ≤ bd.size
 rotate_left
 ·have q2 : decide ((bd.size : Int) < (c : Int)) = true := by simp; omega
  have q3 : decide (bd.size < c) = true := by simp; omega
  obtain rfl : o = none := by rw [HO.out, readO, decide_eq_false (show ¬ (c : Int) ≤ bd.size by omega), Bool.false_and, Bool.and_false]; rfl
  go_enter Tryz.func102, Tryz.ntmps102
  go_upto_region 1 with fail
  rw [← hw0]
  clear hw0
  have p1 := Pp.out.cell 1
  have p5 := Pp.out.cell 5
  simp at p1 p5
  go_wp2_with fail
  go_ret3
  exact ⟨rfl, HB.out⟩
 have q2 : decide ((bd.size : Int) < (c : Int)) = false := by simp; omega
 have q3 : decide (bd.size < c) = false := by simp; omega
 obtain ⟨z, hz⟩ : ∃ z : Nat, z = bd.size + 24 := ⟨_, rfl⟩
 have hwz : wrap64 (z : Int) = (z : Int) := wrap64_nat z (by omega)
 have hws2 : ((bd.size : Int) + 24) = (z : Int) := by omega
 obtain ⟨s, hs⟩ : ∃ s, s = bd.extract 0 c := ⟨_, rfl⟩
 have hss : s.size = c := by rw [hs, ByteArray.size_extract]; omega
 have hO2 : o = if mayP9 z pg lk ty s && decide (kd = 5 ∧ bd = overBody z s) then some s else none := by
  rw [HO.out, readO, decide_eq_true (show (0 : Int) ≤ c by omega), decide_eq_true (show (c : Int) ≤ bd.size by omega), hz, hs]
  simp
 have HO2 := Lib.hid hO2
 have hse : bd.extract 0 c = s := hs.symm
 have HSS := Lib.hid hss
 have HPn := fun (w : World) (h : mayP9 z pg lk ty s = false) => opage9_no z pg lk ty s w (by omega) h
 have HPy := fun (w : World) (h : mayP9 z pg lk ty s = true) => opage9_yes z pg lk ty s w h
 rw [hss] at HPy
 have hc9 : c ≤ 100000 := by omega
 clear hO2 hz hs HO hss
 go_enter Tryz.func102, Tryz.ntmps102
 go_upto_region 1 with fail
 rw [← hw0]
 clear hw0
 have p1 := Pp.out.cell 1
 have p2 := Pp.out.cell 2
 have p3 := Pp.out.cell 3
 have p4 := Pp.out.cell 4
 have p5 := Pp.out.cell 5
 simp at p1 p2 p3 p4 p5
 rcases hy : mayP9 z pg lk ty s with _ | _
 ·have HP := fun w => HPn w hy
  obtain rfl : o = none := by rw [HO2.out, hy]; rfl
  clear hy HPn HPy
  go_wp2_with fail
  refine (HP _).mono ?_
  rintro e w2 ⟨rfl, hb⟩
  replace HB := Lib.hid (HB.out.trans (hb.mono HB.out.size))
  clear hb HP
  go_wp2_with fail
  go_ret3
  exact ⟨rfl, HB.out.alloc HB.out.size _⟩
 ·have HP := fun w => HPy w hy
  obtain ⟨B, hB⟩ : ∃ B, B = overBody z s := ⟨_, rfl⟩
  rw [← hB] at HP
  have HQ := Lib.hid (show o = if decide (kd = 5 ∧ bd = B) then some s else none by rw [HO2.out, hy, Bool.true_and, hB])
  clear hy HPn HPy hB HO2
  go_wp2_with fail
  refine (HP _).mono ?_
  rintro e w2 ⟨rfl, hb⟩
  replace Pp := Lib.hid (Pp.out.below hb Pp.out.lt)
  replace HB := Lib.hid (HB.out.trans (hb.mono HB.out.size))
  clear hb HP p1 p2 p3 p4 p5
  obtain ⟨w3, hw3⟩ : ∃ x, x = w2.alloc (.cells #[.int .i64 5, .int .i64 c, .int .u32 pg, .int .u32 lk, .int .u64 ty, .string B] 41) := ⟨_, rfl⟩
  have Q := Lib.hid (show Blk w3 w2.heap.size 41 #[.int .i64 5, .int .i64 c, .int .u32 pg, .int .u32 lk, .int .u64 ty, .string B] by rw [hw3]; exact Blk.new _ _ _)
  replace Pp := Lib.hid (show Blk w3 w.heap.size 41 #[.int .i64 kd, .int .i64 c, .int .u32 pg, .int .u32 lk, .int .u64 ty, .string bd] by rw [hw3]; exact Pp.out.alloc _)
  replace HB := Lib.hid (show Below w.heap.size w w3 by rw [hw3]; exact HB.out.alloc HB.out.size _)
  go_upto_region 5 with fail
  rw [← hw3]
  clear hw3 hws2 hwz
  generalize w2.heap.size = gQ at *
  have c0 := Pp.out.cell 0
  have c1 := Pp.out.cell 1
  have c2 := Pp.out.cell 2
  have c3 := Pp.out.cell 3
  have c4 := Pp.out.cell 4
  have c5 := Pp.out.cell 5
  have q0 := Q.out.cell 0
  have q1 := Q.out.cell 1
  have q2' := Q.out.cell 2
  have q3' := Q.out.cell 3
  have q4 := Q.out.cell 4
  have q5 := Q.out.cell 5
  simp at c0 c1 c2 c3 c4 c5 q0 q1 q2' q3' q4 q5
  by_cases hd : kd = 5 ∧ bd = B
  ·obtain ⟨rfl, rfl⟩ := hd
   obtain rfl : o = some s := by rw [HQ.out]; simp
   have hpq := fun w => page9_neq_no 5 c pg lk ty bd w
   go_upto_region 7 with fail
   clear c0 c1 c2 c3 c4 c5 q0 q1 q2' q3' q4 q5 Q
   have c3 := Pp.out.cell 3
   simp at c3
   have d3 := Pp.out.drew.cell 3
   simp at d3
   replace HB := Lib.hid HB.out.drew
   replace Pp := Lib.hid Pp.out.drew
   have HX9 := Lib.hid (show s.size ≤ 281474976710656 by rw [HSS.out]; omega)
   go_region_with (go_at_call 128; refine (sclone_any _ _ HX9.out).mono ?_; rintro e W2 ⟨rfl, hb2⟩; replace HB := Lib.hid (HB.out.trans (hb2.mono HB.out.size)); have e3 := (Pp.out.below hb2 Pp.out.lt).cell 3; simp at e3; clear hb2)
   all_goals (go_wp2_with fail; go_ret3; exact ⟨rfl, HB.out⟩)
  ·obtain rfl : o = none := by rw [HQ.out, decide_eq_false hd]; rfl
   have hpq := fun w => page9_neq_yes 5 c pg lk ty B kd c pg lk ty bd w (by intro ⟨e1, _, _, _, _, e6⟩; exact hd ⟨e1.symm, e6.symm⟩)
   clear hd
   go_wp2_with fail
   go_ret3
   exact ⟨rfl, HB.out⟩
end Go.Proofs.YtmmjckokjmpfpaaGreat

namespace Go.Proofs.YtmmjckokjmpfpaaGreat
open Go.RowKit
section
variable {F : Fence} {n : Nat} {P : Program} {ops : Array Oper} {Q : Exit → Act → World → Prop}
def plainOp (o : Oper) : Bool := match o.op with | .defer _ => false | _ => true
theorem plainOp_spec {o : Oper} (h : plainOp o = true) : ∀ c, o.op ≠ .defer c := fun c e => by
 unfold plainOp at h
 rw [e] at h
 cases h
theorem upon_round (l : Nat) (o : Oper) (a : Act) (K : Act → World → Prop) (r : Result Next) : o.uponIn (F.inRound l) n P a K Q r = o.uponIn F n P a K Q r := by
 rcases r with ⟨v, w⟩ | ⟨x, w⟩
 ·cases v <;> rfl
 ·cases x <;> rfl
theorem wpIn_round (hro : F.round = none) (l : Nat) {o : Oper} (hd : plainOp o = true) {a : Act} {w : World} {K : Act → World → Prop} (h : o.wpIn F n P a w K Q) : o.wpIn (F.inRound l) n P a w K Q := by
 refine ⟨h.1, ?_⟩
 rw [upon_round, Fence.inRound_round, Oper.semAt_some l _ o (plainOp_spec hd)]
 have h2 := h.2
 rw [hro] at h2
 exact h2
theorem wpOpIn_round (hro : F.round = none) (l : Nat) (hd : ∀ (i : Nat) (o : Oper), ops[i]? = some o → plainOp o = true) {i : Nat} {a : Act} {w : World} {K K' : Act → World → Prop} (hK : ∀ a w, K a w → K' a w) (h : wpOpIn F n P ops Q i K a w) : wpOpIn (F.inRound l) n P ops Q i K' a w := by
 unfold wpOpIn at h ⊢
 split at h
 ·rename_i e
  exact hK _ _ h
 ·rename_i o e
  split at h
  ·rename_i hw
   simp only [hw, if_true]
   exact wpIn_round hro l (hd i o e) (Oper.wpIn_mono hK h)
  ·rename_i hw
   simp only [hw]
   exact ⟨h.1, hK _ _ h.2⟩
theorem wpAnyIn_round (hro : F.round = none) (l : Nat) (md : Region.Mode) (hd : ∀ (i : Nat) (o : Oper), ops[i]? = some o → plainOp o = true) : ∀ (fuel : Nat) (listed : Array Bool) (a : Act) (w : World), wpAnyIn F n P md ops Q fuel listed a w → wpAnyIn (F.inRound l) n P md ops Q fuel listed a w
 | 0, _, _, _, h => h
 | fuel + 1, listed, a, w, h => ⟨h.1, fun i hi => wpOpIn_round hro l hd (fun a w hk => wpAnyIn_round hro l md hd fuel _ a w hk) (h.2 i hi)⟩
theorem region_quiet_round {id : Nat} {a : Act} {w : World} {ol : List Oper} (l : Nat) (hro : F.round = none) (hm : P.follows .mixedOrders = true) (hB : Region.lexB .any ol.toArray = true) (hd : ol.all plainOp = true)
  (h : wpQuietIn F n P ol.toArray (fun w' => ∃ n, w' = w.drewN n) (fun a' => ∀ w', (∃ n, w' = w.drewN n) → Q .normal a' w') ol a) : (Code.region id ol.toArray true).wpIn (F.inRound l) n P Q a w := by
 have hB' := hB
 simp only [Region.lexB, Bool.and_eq_true] at hB'
 refine wpIn_region_any hm (wpAnyIn_round hro l .any (fun i o e => List.all_eq_true.1 hd o (by rw [List.getElem?_toArray] at e; exact List.mem_of_getElem? e)) _ _ _ _ (wpAnyIn_of_quiet (C := fun w' => ∃ n, w' = w.drewN n) (Q := fun a' => ∀ w', (∃ n, w' = w.drewN n) → Q .normal a' w') hro (fun _ w' hw' h => h w' hw') _ _ _ _ ⟨1, rfl⟩ ?_))
 have := wpAnyQIn_lex (F := F) (n := n) (C := fun w' => ∃ n, w' = w.drewN n) (md := .any) hB'.1 ol 0 (Array.replicate ol.length false) a (by simp) (by simpa using hB'.2) h
 simpa using this
end
end Go.Proofs.YtmmjckokjmpfpaaGreat

