/-
  Texts that the main proof rests on, put together: CuNode, LaY. No statement is proved here.
-/
import Derived.Test.YtmmjckokjmpfpaaGreatJ18
import Derived.Test.YtmmjckokjmpfpaaGreatJ20
import Derived.Test.YtmmjckokjmpfpaaGreatJ22
import Derived.Test.YtmmjckokjmpfpaaGreatJ25
import Derived.Test.YtmmjckokjmpfpaaGreatJ30
import Derived.Deep.QuietTactic
import Derived.BigQuiet
import Derived.WalkMore
import Derived.Test.YtmmjckokjmpfpaaGreatJ15
import Derived.Test.YtmmjckokjmpfpaaGreatJ11
import Derived.Test.YtmmjckokjmpfpaaGreatJ17
import Derived.Test.YtmmjckokjmpfpaaGreatJ14
import Derived.Test.YtmmjckokjmpfpaaGreatJ13
import Derived.Test.YtmmjckokjmpfpaaGreatJ3
set_option linter.unusedVariables false
set_option linter.unusedSimpArgs false
namespace Go.Proofs.YtmmjckokjmpfpaaGreat
open Go.RowKit
open Go.Lib hiding intOf
attribute [local go_sem ↓] Go.wp_at_zero Go.wp_at_succ

theorem results_cell_one {P : Program} {fn : Func} {p : Tmp} {ty : TypeId} (h : fn.results = #[.cell p ty]) (tmps : Array Value) (w : World) (g : Nat) (u : Value)
  (hp : tmps.getD p undef = .pointer (some ⟨g, 0, none⟩)) (hu : (loadVar ty ⟨g, 0, none⟩).run P w = .ok u w) :
  (results fn tmps).run P w = .ok u w := by
 have hp' : tmps[p]?.getD undef = .pointer (some ⟨g, 0, none⟩) := by simpa using hp
 simp [results, h, hp', asAddr, hu]
theorem infoNodez : (Tryz.prog.info? 136).map (fun i => (i.zero, i.size)) = some (some (.agg #[.int .i64 0, .slice none 0 0, .slice none 0 0]), 3) := by kernel_rfl
theorem load_node {w : World} {g : Nat} {a0 a1 a2 : Value} (h : Blk w g 136 #[a0, a1, a2]) : (loadVar 136 ⟨g, 0, none⟩).run Tryz.prog w = .ok (.agg #[a0, a1, a2]) w := by
 obtain ⟨hz, hi⟩ := zero_of_info infoNodez
 exact run_loadVar_row w g 136 136 #[a0, a1, a2] (0, 0) _ h Tryz.underlying136 rfl hi
theorem nodeN_is (size : Int) (s : ByteArray) (n : Nat) : nodeN size s n = if (pageOf size s n).kd = 3 then (match readF (pageOf size s n).kd (pageOf size s n).ct (pageOf size s n).pg (pageOf size s n).lk (pageOf size s n).tx (pageOf size s n).bd with | some l => .br l | none => .none) else if (pageOf size s n).kd = 4 then (match readI (pageOf size s n).kd (pageOf size s n).ct (pageOf size s n).pg (pageOf size s n).lk (pageOf size s n).tx (pageOf size s n).bd with | some l => .lf l | none => .none) else .none := by
 rcases hr : readAt size s n with _ | p
 ·rw [(errAt_none hr).2, nodeN, hr]
  rfl
 ·rw [(errAt_some hr).2, nodeN, hr]
  obtain ⟨kd, ct, pg, lk, tx, bd⟩ := p
  simp only [Pg.node]
  by_cases h3 : kd = 3
  ·subst h3
   simp only [if_true]
   rcases hf : readF 3 ct pg lk tx bd with _ | l
   ·rcases hi : readI 3 ct pg lk tx bd with _ | l
    ·rfl
    ·have := (readI_kd hi).1
     omega
   ·rfl
  ·rw [if_neg h3]
   rcases hf : readF kd ct pg lk tx bd with _ | l
   ·by_cases h4 : kd = 4
    ·rw [if_pos h4]
     rfl
    ·rw [if_neg h4]
     rcases hi : readI kd ct pg lk tx bd with _ | l
     ·rfl
     ·exact absurd (readI_kd hi).1 h4
   ·exact absurd (readF_kd hf).1 h3
theorem pageOf_bd (size : Int) (s : ByteArray) (n : Nat) : (pageOf size s n).bd.size ≤ 100000 := by
 rcases hr : readAt size s n with _ | p
 ·rw [(errAt_none hr).2]; decide
 ·rw [(errAt_some hr).2]
  have := readAt_body hr
  omega
def NodePost (o : Nd) (w : World) (e : Ending) (w' : World) : Prop := Below w.heap.size w w' ∧ match o with
 | .none => e = .returned (.agg #[.int .i64 0, .slice none 0 0, .slice none 0 0])
 | .br l => ∃ A n c, e = .returned (.agg #[.int .i64 3, .slice A n c, .slice none 0 0]) ∧ ReadsN w.heap.size w' 2 A n (fkc l) ∧ n ≤ c ∧ c ≤ maxLen
 | .lf l => ∃ A n c, e = .returned (.agg #[.int .i64 4, .slice none 0 0, .slice A n c]) ∧ ReadsN w.heap.size w' 5 A n (itc l) ∧ n ≤ c ∧ c ≤ maxLen
theorem set3 {w : World} {g : Nat} {t : TypeId} {a0 a1 a2 : Value} (b0 b1 b2 : Value) (h : Blk w g t #[a0, a1, a2]) : Blk (((w.setCell ⟨g, 0, none⟩ b0).setCell ⟨g, 1, none⟩ b1).setCell ⟨g, 2, none⟩ b2) g t #[b0, b1, b2] := by
 have := ((h.set_ 0 b0).set_ 1 b1).set_ 2 b2
 simpa using this
theorem below3 {w w' : World} {B g : Nat} (b0 b1 b2 : Value) (h : Below B w w') (hg : B ≤ g) : Below B w (((w'.setCell ⟨g, 0, none⟩ b0).setCell ⟨g, 1, none⟩ b1).setCell ⟨g, 2, none⟩ b2) :=
 ((h.setCell (p := ⟨g, 0, none⟩) hg b0).setCell (p := ⟨g, 1, none⟩) hg b1).setCell (p := ⟨g, 2, none⟩) hg b2
theorem keep4 {w : World} {g q i lo size n : Nat} {A : Option Addr} {xs : List Value} (u b0 b1 b2 : Value) (h : Reads w w.heap.size size A n xs) (hlo : ∀ ad, A = some ad → lo ≤ ad.block) (hg : g < lo) (hq : q < lo) :
  Reads ((((w.setCell ⟨q, i, none⟩ u).setCell ⟨g, 0, none⟩ b0).setCell ⟨g, 1, none⟩ b1).setCell ⟨g, 2, none⟩ b2) ((((w.setCell ⟨q, i, none⟩ u).setCell ⟨g, 0, none⟩ b0).setCell ⟨g, 1, none⟩ b1).setCell ⟨g, 2, none⟩ b2).heap.size size A n xs := by
 refine (h.keep_from hlo fun p hp => ?_).more (by simp [World.setCell])
 rw [World.cell?_setCell_other _ _ _ _ (fun e => by subst e; simp at hp; omega), World.cell?_setCell_other _ _ _ _ (fun e => by subst e; simp at hp; omega), World.cell?_setCell_other _ _ _ _ (fun e => by subst e; simp at hp; omega), World.cell?_setCell_other _ _ _ _ (fun e => by subst e; simp at hp; omega)]
set_option maxRecDepth 100000 in
set_option maxHeartbeats 12800000 in
theorem nodeAt_any (size : Int) (s : ByteArray) (n : Nat) (w : World) (hs : s.size ≤ 1000000) (hn : n < 4294967296) :
  Calls Tryz.prog 73 #[.int .i64 size, .string s, .int .u32 n] w (NodePost (nodeN size s n) w) := by
 have HN := Lib.hid (nodeN_is size s n)
 have HRd := Lib.hid (fun (w : World) => fread_all size s n w (Nat.le_trans hs (by decide)) hn)
 have hbd := pageOf_bd size s n
 obtain ⟨o, ho⟩ : ∃ o, o = nodeN size s n := ⟨_, rfl⟩
 obtain ⟨x, hx⟩ : ∃ x, x = errAt size s n := ⟨_, rfl⟩
 obtain ⟨q, hq⟩ : ∃ q, q = pageOf size s n := ⟨_, rfl⟩
 rw [← ho] at HN ⊢
 rw [← hx, ← hq] at HRd
 rw [← hq] at HN hbd
 obtain ⟨qk, qc, qp, ql, qt, qb⟩ := q
 simp only [Pg.agg] at HRd
 have HBd := Lib.hid hbd
 clear ho hx hq hs hn hbd
 obtain ⟨hz, hi0⟩ := zero_of_info infoNodez
 have HI := Lib.hid hi0
 obtain ⟨hzp, hip⟩ := zero_of_info infoPg
 have HIP := Lib.hid hip
 clear hi0 hip
 obtain ⟨w0, hw0⟩ : ∃ x, x = w.alloc (.cells #[.int .i64 0, .slice none 0 0, .slice none 0 0] 136) := ⟨_, rfl⟩
 have R0 := Lib.hid (show Blk w0 w.heap.size 136 #[.int .i64 0, .slice none 0 0, .slice none 0 0] by rw [hw0]; exact Blk.new _ _ _)
 have HB := Lib.hid (show Below w.heap.size w w0 by rw [hw0]; exact (Below.refl _ _).alloc (Nat.le_refl _) _)
 go_enter Tryz.func73, Tryz.ntmps73
 go_wp2_with fail
 rw [← hw0]
 clear hw0
 refine (HRd.out _).mono ?_
 rintro e w1 ⟨rfl, hb⟩
 replace R0 := Lib.hid (R0.out.below hb R0.out.lt)
 replace HB := Lib.hid (HB.out.trans (hb.mono HB.out.size))
 clear hb HRd
 go_upto_region 3 with fail
 obtain ⟨w3, hw3⟩ : ∃ y, y = (w1.alloc (.cells #[.int .i64 qk, .int .i64 qc, .int .u32 qp, .int .u32 ql, .int .u64 qt, .string qb] 41)).alloc (.cells #[.int .i64 qk, .slice none 0 0, .slice none 0 0] 136) := ⟨_, rfl⟩
 have Pp := Lib.hid (show Blk w3 w1.heap.size 41 #[.int .i64 qk, .int .i64 qc, .int .u32 qp, .int .u32 ql, .int .u64 qt, .string qb] by rw [hw3]; exact (Blk.new _ _ _).alloc _)
 have Q := Lib.hid (show Blk w3 (w1.heap.size + 1) 136 #[.int .i64 qk, .slice none 0 0, .slice none 0 0] by rw [hw3]; have := Blk.new (w1.alloc (.cells #[.int .i64 qk, .int .i64 qc, .int .u32 qp, .int .u32 ql, .int .u64 qt, .string qb] 41)) 136 #[.int .i64 qk, .slice none 0 0, .slice none 0 0]; simpa using this)
 have HZ := Lib.hid R0.out.lt
 replace R0 := Lib.hid (show Blk w3 w.heap.size 136 #[.int .i64 0, .slice none 0 0, .slice none 0 0] by rw [hw3]; exact (R0.out.alloc _).alloc _)
 replace HB := Lib.hid (show Below w.heap.size w w3 by rw [hw3]; exact (HB.out.alloc HB.out.size _).alloc (by simp; have := HB.out.size; omega) _)
 rw [← hw3]
 clear hw3
 obtain ⟨gP, hgP⟩ : ∃ g, g = w1.heap.size := ⟨_, rfl⟩
 rw [← hgP] at Pp Q HZ ⊢
 clear hgP
 have p0 := Pp.out.cell 0
 have p1 := Pp.out.cell 1
 have p2 := Pp.out.cell 2
 have p3 := Pp.out.cell 3
 have p4 := Pp.out.cell 4
 have p5 := Pp.out.cell 5
 simp at p0 p1 p2 p3 p4 p5
 by_cases h3 : qk = 3
 ·subst h3
  have HO := Lib.hid (show o = (match readF 3 qc qp ql qt qb with | some l => .br l | none => .none) by have := HN.out; simpa using this)
  clear HN
  go_wp2_with fail
  refine (bof7_new 3 qc qp ql qt qb _ HBd.out).mono ?_
  rintro e w4 hp
  rcases hf : readF 3 qc qp ql qt qb with _ | l
  ·rw [hf] at hp HO
   obtain ⟨rfl, hb⟩ := hp
   replace R0 := Lib.hid (R0.out.below hb R0.out.lt)
   replace Q := Lib.hid (Q.out.below hb Q.out.lt)
   replace HB := Lib.hid (HB.out.trans (hb.mono HB.out.size))
   clear hb hf p0 p1 p2 p3 p4 p5 Pp
   have q1 := Q.out.cell 1
   have f1 := Q.out.frozen 1
   simp at q1
   have S0 := Lib.hid (R0.out.far (p := ⟨gP + 1, 1, none⟩) (show w.heap.size ≠ gP + 1 by have := HZ.out; omega) (.slice none 0 0))
   have HS := Lib.hid (HB.out.setCell (p := ⟨gP + 1, 1, none⟩) (show w.heap.size ≤ gP + 1 by have := HZ.out; omega) (.slice none 0 0))
   have r0 := S0.out.cell 0
   have r1 := S0.out.cell 1
   have r2 := S0.out.cell 2
   have g0 := S0.out.frozen 0
   have g1 := S0.out.frozen 1
   have g2 := S0.out.frozen 2
   simp at r0 r1 r2
   go_wp2_with fail
   exact bodyPost_ret (v := .agg #[.int .i64 0, .slice none 0 0, .slice none 0 0]) (results_cell_one rfl _ _ w.heap.size _ rfl (load_node (set3 _ _ _ S0.out))) rfl ⟨below3 _ _ _ HS.out (Nat.le_refl _), by rw [HO.out]⟩
  ·rw [hf] at hp HO
   obtain ⟨A, n, c, rfl, hrd, hnc, hcm, hb, hlo⟩ := hp
   have HRw := Lib.hid hrd
   have HC := Lib.hid hnc
   have HMx := Lib.hid hcm
   have HL := Lib.hid hlo
   have HQl := Lib.hid Q.out.lt
   have HRl := Lib.hid R0.out.lt
   replace R0 := Lib.hid (R0.out.below hb R0.out.lt)
   replace Q := Lib.hid (Q.out.below hb Q.out.lt)
   have HB3 := Lib.hid HB.out.size
   replace HB := Lib.hid (HB.out.trans (hb.mono HB.out.size))
   clear hb hf p0 p1 p2 p3 p4 p5 Pp hrd hnc hcm hlo
   have q1 := Q.out.cell 1
   have f1 := Q.out.frozen 1
   simp at q1
   have S0 := Lib.hid (R0.out.far (p := ⟨gP + 1, 1, none⟩) (show w.heap.size ≠ gP + 1 by have := HZ.out; omega) (.slice A n c))
   have Q0 := Lib.hid (Q.out.set_ 1 (.slice A n c))
   have HS := Lib.hid (HB.out.setCell (p := ⟨gP + 1, 1, none⟩) (show w.heap.size ≤ gP + 1 by have := HZ.out; omega) (.slice A n c))
   have k0 := Q0.out.cell 0
   have k1 := Q0.out.cell 1
   have k2 := Q0.out.cell 2
   have r0 := S0.out.cell 0
   have r1 := S0.out.cell 1
   have r2 := S0.out.cell 2
   have g0 := S0.out.frozen 0
   have g1 := S0.out.frozen 1
   have g2 := S0.out.frozen 2
   simp at r0 r1 r2 k0 k1 k2
   go_wp2_with fail
   exact bodyPost_ret (v := .agg #[.int .i64 3, .slice A n c, .slice none 0 0]) (results_cell_one rfl _ _ w.heap.size _ rfl (load_node (set3 _ _ _ S0.out))) rfl ⟨below3 _ _ _ HS.out (Nat.le_refl _), by rw [HO.out]; exact ⟨A, n, c, rfl, ⟨keep4 _ _ _ _ HRw.out HL.out HRl.out HQl.out, fun ad e => Nat.le_trans HB3.out (HL.out ad e)⟩, HC.out, HMx.out⟩⟩
 by_cases h4 : qk = 4
 ·subst h4
  have HO := Lib.hid (show o = (match readI 4 qc qp ql qt qb with | some l => .lf l | none => .none) by have := HN.out; simpa using this)
  clear HN
  go_wp2_with fail
  refine (lof8_new 4 qc qp ql qt qb _ HBd.out).mono ?_
  rintro e w4 hp
  rcases hf : readI 4 qc qp ql qt qb with _ | l
  ·rw [hf] at hp HO
   obtain ⟨rfl, hb⟩ := hp
   replace R0 := Lib.hid (R0.out.below hb R0.out.lt)
   replace Q := Lib.hid (Q.out.below hb Q.out.lt)
   replace HB := Lib.hid (HB.out.trans (hb.mono HB.out.size))
   clear hb hf p0 p1 p2 p3 p4 p5 Pp
   have q2 := Q.out.cell 2
   have f1 := Q.out.frozen 2
   simp at q2
   have S0 := Lib.hid (R0.out.far (p := ⟨gP + 1, 2, none⟩) (show w.heap.size ≠ gP + 1 by have := HZ.out; omega) (.slice none 0 0))
   have HS := Lib.hid (HB.out.setCell (p := ⟨gP + 1, 2, none⟩) (show w.heap.size ≤ gP + 1 by have := HZ.out; omega) (.slice none 0 0))
   have r0 := S0.out.cell 0
   have r1 := S0.out.cell 1
   have r2 := S0.out.cell 2
   have g0 := S0.out.frozen 0
   have g1 := S0.out.frozen 1
   have g2 := S0.out.frozen 2
   simp at r0 r1 r2
   go_wp2_with fail
   exact bodyPost_ret (v := .agg #[.int .i64 0, .slice none 0 0, .slice none 0 0]) (results_cell_one rfl _ _ w.heap.size _ rfl (load_node (set3 _ _ _ S0.out))) rfl ⟨below3 _ _ _ HS.out (Nat.le_refl _), by rw [HO.out]⟩
  ·rw [hf] at hp HO
   obtain ⟨A, n, c, rfl, hrd, hnc, hcm, hb, hlo⟩ := hp
   have HRw := Lib.hid hrd
   have HC := Lib.hid hnc
   have HMx := Lib.hid hcm
   have HL := Lib.hid hlo
   have HQl := Lib.hid Q.out.lt
   have HRl := Lib.hid R0.out.lt
   replace R0 := Lib.hid (R0.out.below hb R0.out.lt)
   replace Q := Lib.hid (Q.out.below hb Q.out.lt)
   have HB3 := Lib.hid HB.out.size
   replace HB := Lib.hid (HB.out.trans (hb.mono HB.out.size))
   clear hb hf p0 p1 p2 p3 p4 p5 Pp hrd hnc hcm hlo
   have q2 := Q.out.cell 2
   have f1 := Q.out.frozen 2
   simp at q2
   have S0 := Lib.hid (R0.out.far (p := ⟨gP + 1, 2, none⟩) (show w.heap.size ≠ gP + 1 by have := HZ.out; omega) (.slice A n c))
   have Q0 := Lib.hid (Q.out.set_ 2 (.slice A n c))
   have HS := Lib.hid (HB.out.setCell (p := ⟨gP + 1, 2, none⟩) (show w.heap.size ≤ gP + 1 by have := HZ.out; omega) (.slice A n c))
   have k0 := Q0.out.cell 0
   have k1 := Q0.out.cell 1
   have k2 := Q0.out.cell 2
   have r0 := S0.out.cell 0
   have r1 := S0.out.cell 1
   have r2 := S0.out.cell 2
   have g0 := S0.out.frozen 0
   have g1 := S0.out.frozen 1
   have g2 := S0.out.frozen 2
   simp at r0 r1 r2 k0 k1 k2
   go_wp2_with fail
   exact bodyPost_ret (v := .agg #[.int .i64 4, .slice none 0 0, .slice A n c]) (results_cell_one rfl _ _ w.heap.size _ rfl (load_node (set3 _ _ _ S0.out))) rfl ⟨below3 _ _ _ HS.out (Nat.le_refl _), by rw [HO.out]; exact ⟨A, n, c, rfl, ⟨keep4 _ _ _ _ HRw.out HL.out HRl.out HQl.out, fun ad e => Nat.le_trans HB3.out (HL.out ad e)⟩, HC.out, HMx.out⟩⟩
 ·have HO := Lib.hid (show o = .none by have := HN.out; rw [if_neg h3, if_neg h4] at this; exact this)
  clear HN p1 p2 p3 p4 p5
  have r0 := R0.out.cell 0
  have r1 := R0.out.cell 1
  have r2 := R0.out.cell 2
  have g0 := R0.out.frozen 0
  have g1 := R0.out.frozen 1
  have g2 := R0.out.frozen 2
  simp at r0 r1 r2
  go_wp2_with fail
  exact bodyPost_ret (v := .agg #[.int .i64 0, .slice none 0 0, .slice none 0 0]) (results_cell_one rfl _ _ w.heap.size _ rfl (load_node (set3 _ _ _ R0.out))) rfl ⟨below3 _ _ _ HB.out (Nat.le_refl _), by rw [HO.out]⟩
def valE (size : Int) (o : Option (ByteArray × List Nat)) : Int := if o.isSome then 0 else rdErr size none
theorem valE_read {size : Int} {s : ByteArray} {head : Nat} {len : Int} : rdErr size (readV size s head len) = valE size (readV size s head len) := by
 unfold valE
 rcases h : readV size s head len with _ | x
 ·rfl
 ·rcases hg : goodSize size with _ | _
  ·rw [readV_bad hg] at h; cases h
  ·unfold rdErr
   rw [hg]
   rfl
set_option maxRecDepth 100000 in
set_option maxHeartbeats 3200000 in
theorem value_any (size : Int) (s : ByteArray) (i : It) (w : World) (hs : s.size ≤ 1000000) (hi : i.hd < 4294967296) (hl9 : -9223372036854775808 ≤ i.ln ∧ i.ln ≤ 9223372036854775807) :
  Calls Tryz.prog 41 #[.int .i64 size, .string s, .agg #[.string i.ky, .string i.vl, .bool i.ov, .int .i64 i.ln, .int .u32 i.hd]] w fun e w' => ∃ A n c, e = .returned (.tuple #[.string (rdStr (valN size s i)), .slice A n c, .int .i64 (valE size (valN size s i))]) ∧ ReadsN w.heap.size w' 1 A n (ucells (rdPs (valN size s i))) ∧ Below w.heap.size w w' := by
 have HRd := Lib.hid (fun (w : World) => hread_new size s i.hd i.ln w hs hi hl9)
 have HE := Lib.hid (valE_read (size := size) (s := s) (head := i.hd) (len := i.ln))
 obtain ⟨o, ho⟩ : ∃ o, o = readV size s i.hd i.ln := ⟨_, rfl⟩
 have hv : valN size s i = if i.ov then o else some (i.vl, []) := by rw [valN, ho]
 rw [← ho] at HRd HE
 rw [hv]
 clear ho hs hi hl9 hv
 obtain ⟨ky, vl, ov, ln, hd⟩ := i
 dsimp only at *
 obtain ⟨w0, hw0⟩ : ∃ x, x = w.alloc (.cells #[.string ky, .string vl, .bool ov, .int .i64 ln, .int .u32 hd] 76) := ⟨_, rfl⟩
 have B := Lib.hid (show Blk w0 w.heap.size 76 #[.string ky, .string vl, .bool ov, .int .i64 ln, .int .u32 hd] by rw [hw0]; exact Blk.new _ _ _)
 have HB := Lib.hid (show Below w.heap.size w w0 by rw [hw0]; exact (Below.refl _ _).alloc (Nat.le_refl _) _)
 cases ov
 ·go_enter Tryz.func41, Tryz.ntmps41
  go_upto_region 1 with fail
  rw [← hw0]
  clear hw0
  have b1 := B.out.cell 1
  have b2 := B.out.cell 2
  simp at b1 b2
  go_wp2_with fail
  go_ret3
  first
   | exact ⟨none, 0, 0, rfl, ReadsN.none_, HB.out⟩
   | exact ⟨none, 0, ⟨0, rfl⟩, ReadsN.none_, HB.out⟩
 ·go_enter Tryz.func41, Tryz.ntmps41
  go_upto_region 1 with fail
  rw [← hw0]
  clear hw0
  have b2 := B.out.cell 2
  have b3 := B.out.cell 3
  have b4 := B.out.cell 4
  simp at b2 b3 b4
  go_wp2_with fail
  refine (HRd.out _).mono ?_
  rintro e w1 ⟨A, n, c, rfl, hr, hb⟩
  rw [HE.out]
  have HR := Lib.hid (show ReadsN w.heap.size w1 1 A n (ucells (rdPs o)) from ⟨hr.1, fun ad e => Nat.le_trans HB.out.size (hr.2 ad e)⟩)
  have HB1 := Lib.hid (HB.out.trans (hb.mono HB.out.size))
  clear hr hb
  go_wp2_with fail
  go_ret3
  first
   | exact ⟨A, n, c, rfl, HR.out, HB1.out⟩
   | exact ⟨A, n, ⟨c, rfl⟩, HR.out, HB1.out⟩
end Go.Proofs.YtmmjckokjmpfpaaGreat

namespace Go.Proofs.YtmmjckokjmpfpaaGreat
open Go.RowKit
open Go.Lib hiding intOf

structure LyAt (w : World) (b : Nat) (V : Value) (L : List Pg) : Prop where
  blk : Blk w b 74 #[.int .i64 128, V]
  own : w.ownsRow 0 41 6 V L.length (pgcs L)
structure LyStep (b : Nat) (V : Value) (w : World) (V' : Value) (w' : World) : Prop where
  kept : Kept (fun k => k = b ∨ V.ownBlock = some k) w w'
  own : ∀ k, V'.ownBlock = some k → V.ownBlock = some k ∨ w.heap.size ≤ k
theorem LyStep.refl (b : Nat) (V : Value) (w : World) : LyStep b V w V w := ⟨Kept.refl _ _, fun _ h => .inl h⟩
theorem LyStep.trans {b : Nat} {V V1 V2 : Value} {w w1 w2 : World} (h : LyStep b V w V1 w1) (k : LyStep b V1 w1 V2 w2) : LyStep b V w V2 w2 := by
  refine ⟨h.kept.then k.kept ?_, ?_⟩
  · rintro i (rfl | hi)
    · exact .inl (.inl rfl)
    · rcases h.own i hi with h1 | h1
      · exact .inl (.inr h1)
      · exact .inr h1
  · intro i hi
    rcases k.own i hi with h1 | h1
    · exact h.own i h1
    · exact .inr (Nat.le_trans h.kept.size h1)
theorem LyStep.below {b : Nat} {V V' : Value} {w w1 w' : World} (h : LyStep b V w V' w') (hb : Below w'.heap.size w' w1) : LyStep b V w V' w1 :=
  ⟨h.kept.then (Kept.of_new (F := fun _ => False) hb) (fun _ hf => hf.elim), h.own⟩
theorem LyStep.new {b : Nat} {V : Value} {w w' : World} (hb : Below w.heap.size w w') : LyStep b V w V w' := (LyStep.refl b V w).below hb
theorem LyAt.below {w w' : World} {b : Nat} {V : Value} {L : List Pg} (h : LyAt w b V L) (hb : Below w.heap.size w w') : LyAt w' b V L := ⟨h.blk.below hb h.blk.lt, own_below h.own hb⟩
theorem LyAt.ne {w : World} {b : Nat} {V : Value} {L : List Pg} (h : LyAt w b V L) : V.ownBlock ≠ some b := own_ne_blk h.own h.blk (by decide)
theorem LyAt.grown {w w' : World} {b : Nat} {V V' : Value} {L : List Pg} (h : LyAt w b V L) (hg : w.grownBy w' V.ownBlock) (hv : V'.ownBlock = V.ownBlock ∨ V'.ownBlock = some w.heap.size) :
    Blk w' b 74 #[.int .i64 128, V] ∧ V'.ownBlock ≠ some b := by
  have hne : V'.ownBlock ≠ some b := by
    rcases hv with h1 | h1
    · rw [h1]; exact h.ne
    · rw [h1]
      intro he
      injection he with he
      have := h.blk.lt
      omega
  exact ⟨(hg.block b h.blk.lt (fun e => h.ne e.symm)).trans h.blk, hne⟩
theorem LyAt.put {w w' : World} {b : Nat} {V V' : Value} {L L' : List Pg} (h : LyAt w b V L) (hg : w.grownBy w' V.ownBlock) (ho : w'.ownsRow 0 41 6 V' L'.length (pgcs L')) (hv : V'.ownBlock = V.ownBlock ∨ V'.ownBlock = some w.heap.size) :
    LyAt (w'.setCell ⟨b, 1, none⟩ V') b V' L' ∧ LyStep b V w V' (w'.setCell ⟨b, 1, none⟩ V') := by
  obtain ⟨hbk, hne⟩ := h.grown hg hv
  refine ⟨⟨hbk.set_ 1 V', ?_⟩, ?_, ?_⟩
  · exact (Kept.setCell (F := fun k => k = b) (Kept.refl _ w') (p := ⟨b, 1, none⟩) (.inl rfl) V').own ho fun k hk hf => hne (hf ▸ hk)
  · refine ((Kept.refl _ w).grown hg (fun k hk => ?_)).setCell (p := ⟨b, 1, none⟩) (.inl (.inl rfl)) V'
    exact .inl (.inr hk)
  · intro k hk
    rcases hv with h1 | h1
    · exact .inl (h1 ▸ hk)
    · rw [h1] at hk
      injection hk with hk
      exact .inr (Nat.le_of_eq hk)
set_option maxRecDepth 100000 in
set_option maxHeartbeats 3200000 in
theorem ynext_any {w : World} {b : Nat} {V : Value} {L : List Pg} (h : LyAt w b V L) (hl : L.length ≤ 1000000) :
    Calls Tryz.prog 68 #[.pointer (some ⟨b, 0, none⟩)] w fun e w' => e = .returned (.int .u32 ((2 + L.length : Nat) : Int)) ∧ w' = w := by
  obtain ⟨A, c, rfl, _, _, _⟩ := own_form h.own
  have c1 := h.blk.cell 1
  have f1 := h.blk.frozen 1
  simp at c1
  obtain ⟨n, hn⟩ : ∃ n, n = L.length := ⟨_, rfl⟩
  rw [← hn] at c1 hl ⊢
  clear h hn
  go_enter Tryz.func68, Tryz.ntmps68
  go_wp2_with fail
  go_ret
  exact ⟨by first | rfl | (simp only [Ending.returned.injEq, Value.int.injEq, true_and]; omega), rfl⟩
theorem five_belowY {w0 w : World} {B b : Nat} {a0 a1 a2 a3 a4 : Value} (h : Below B w0 w) (hb : B ≤ b) : Below B w0 (((((w.setCell ⟨b, 0, none⟩ a0).setCell ⟨b, 1, none⟩ a1).setCell ⟨b, 2, none⟩ a2).setCell ⟨b, 3, none⟩ a3).setCell ⟨b, 4, none⟩ a4) :=
  ((((h.setCell hb a0).setCell hb a1).setCell hb a2).setCell hb a3).setCell hb a4
theorem five_kept {F : Nat → Prop} {w0 w : World} {b : Nat} {a0 a1 a2 a3 a4 : Value} (h : Kept F w0 w) (hb : F b ∨ w0.heap.size ≤ b) : Kept F w0 (((((w.setCell ⟨b, 0, none⟩ a0).setCell ⟨b, 1, none⟩ a1).setCell ⟨b, 2, none⟩ a2).setCell ⟨b, 3, none⟩ a3).setCell ⟨b, 4, none⟩ a4) :=
  ((((h.setCell (p := ⟨b, 0, none⟩) hb a0).setCell (p := ⟨b, 1, none⟩) hb a1).setCell (p := ⟨b, 2, none⟩) hb a2).setCell (p := ⟨b, 3, none⟩) hb a3).setCell (p := ⟨b, 4, none⟩) hb a4
theorem LyAt.kept {F : Nat → Prop} {w w' : World} {b : Nat} {V : Value} {L : List Pg} (h : LyAt w b V L) (hk : Kept F w w') (h1 : ¬ F b) (h2 : ∀ k, V.ownBlock = some k → ¬ F k) : LyAt w' b V L := ⟨hk.blk h.blk h1, hk.own h.own h2⟩
theorem LyAt.kept1 {w w' : World} {b g : Nat} {V : Value} {L : List Pg} {t : TypeId} {cs : Array Value} (h : LyAt w b V L) (hg : Blk w g t cs) (hk : Kept (fun k => k = g) w w') (h1 : g ≠ b) (h2 : 41 ≠ t) : LyAt w' b V L :=
  h.kept hk (fun e => h1 e.symm) (fun k hv e => by subst e; exact own_ne_blk h.own hg h2 hv)
theorem LyStep.more {b g : Nat} {V V' : Value} {w w1 w' : World} (h : LyStep b V w V' w') (hk : Kept (fun k => k = g) w' w1) (hg : w.heap.size ≤ g) : LyStep b V w V' w1 :=
  ⟨h.kept.then hk (fun _ hf => .inr (by rw [hf]; exact hg)), h.own⟩
theorem onY_len {size : Int} {tx : Nat} {ps : List Nat} {v : ByteArray} : ((onL size tx ps v).getD []).length ≤ ps.length := by
  unfold onL
  split
  · simp
  · simp
theorem pagesY_len {size : Int} {tx f : Nat} {v : ByteArray} (hv : v.size ≤ 1000000) : ((pagesL size tx f v).getD []).length ≤ 1000000 := by
  have h1 := onY_len (size := size) (tx := tx) (ps := runW f (needN size v.size)) (v := v)
  rw [runW_len] at h1
  have h2 := needN_le size v.size hv
  exact Nat.le_trans h1 h2
theorem pgsPost_any {o : Option (List Pg)} {w : World} {e : Ending} {w' : World} (h : PgsPost o w e w') : ∃ A n c er, e = .returned (.tuple #[.slice A n c, er]) ∧ Reads w' w'.heap.size 6 A n (pgcs (o.getD [])) ∧ Below w.heap.size w w' := by
  cases o with
  | none => exact ⟨none, 0, 0, _, h.1, Reads.none_, h.2⟩
  | some L =>
    obtain ⟨A, n, c, h1, h2, h3⟩ := h
    exact ⟨A, n, c, _, h1, h2, h3⟩
theorem LyAt.c0 {w : World} {b : Nat} {V : Value} {L : List Pg} (h : LyAt w b V L) : w.cell? ⟨b, 0, none⟩ = some (.int .i64 128) := by rw [h.blk.cell 0]; rfl
theorem LyAt.c1 {w : World} {b : Nat} {V : Value} {L : List Pg} (h : LyAt w b V L) : w.cell? ⟨b, 1, none⟩ = some V := by rw [h.blk.cell 1]; rfl
theorem two_cells {w : World} {g : Nat} {t : TypeId} {a b : Value} (h : Blk w g t #[a, b]) : w.cell? ⟨g, 0, none⟩ = some a ∧ w.cell? ⟨g, 1, none⟩ = some b := ⟨by rw [h.cell 0]; rfl, by rw [h.cell 1]; rfl⟩
set_option maxRecDepth 100000 in
set_option maxHeartbeats 3200000 in
theorem yitem_any {w : World} {b : Nat} {V : Value} {L : List Pg} (ky vl : ByteArray) (h : LyAt w b V L) (hl : L.length ≤ 100000) (hv : vl.size ≤ 4096) :
    Calls Tryz.prog 36 #[.pointer (some ⟨b, 0, none⟩), .agg #[.string ky, .string vl]] w fun e w' => e = .returned (.agg (itemY 128 L ⟨ky, vl⟩).2.cells.toArray) ∧ ∃ V', LyAt w' b V' (itemY 128 L ⟨ky, vl⟩).1 ∧ LyStep b V w V' w' := by
  have HIn : ∀ w : World, Calls Tryz.prog 67 #[.int .i64 128, .int .i64 vl.size] w fun e w' => e = .returned (.bool (inB 128 vl.size)) ∧ w' = w := fun w => rin_any 128 (vl.size : Int) w (by omega)
  have HB0 := Lib.hid (show Below w.heap.size w ((w.alloc (.cells #[.string ky, .string vl] 55)).alloc (.cells #[.string ByteArray.empty, .string ByteArray.empty, .bool false, .int .i64 0, .int .u32 0] 76)) from ((Below.refl _ _).alloc (Nat.le_refl _) _).alloc (by simp) _)
  have HP0 := Lib.hid (show Blk ((w.alloc (.cells #[.string ky, .string vl] 55)).alloc (.cells #[.string ByteArray.empty, .string ByteArray.empty, .bool false, .int .i64 0, .int .u32 0] 76)) w.heap.size 55 #[.string ky, .string vl] from (Blk.new _ _ _).alloc _)
  have HI0 := Lib.hid (show Blk ((w.alloc (.cells #[.string ky, .string vl] 55)).alloc (.cells #[.string ByteArray.empty, .string ByteArray.empty, .bool false, .int .i64 0, .int .u32 0] 76)) (w.heap.size + 1) 76 #[.string ByteArray.empty, .string ByteArray.empty, .bool false, .int .i64 0, .int .u32 0] from by have := Blk.new (w.alloc (.cells #[.string ky, .string vl] 55)) 76 #[.string ByteArray.empty, .string ByteArray.empty, .bool false, .int .i64 0, .int .u32 0]; rwa [World.size_alloc] at this)
  have H := Lib.hid h
  obtain ⟨hzi, hii⟩ := zero_of_info infoItz
  have HII := Lib.hid hii
  obtain ⟨w0, hw0⟩ : ∃ x, x = ((w.alloc (.cells #[.string ky, .string vl] 55)).alloc (.cells #[.string ByteArray.empty, .string ByteArray.empty, .bool false, .int .i64 0, .int .u32 0] 76)) := ⟨_, rfl⟩
  rw [← hw0] at HB0 HP0 HI0
  have HN := Lib.hid (show b < w.heap.size from h.blk.lt)
  obtain ⟨g1, hg1⟩ : ∃ g, g = w.heap.size + 1 := ⟨_, rfl⟩
  rcases hin : inB 128 vl.size with _ | _
  rotate_left
  · have HE := Lib.hid (show itemY 128 L ⟨ky, vl⟩ = (L, ⟨ky, vl, false, 0, 0⟩) by unfold itemY; rw [if_pos hin])
    rw [hin] at HIn
    have HH := Lib.hid ((h.below HB0.out))
    clear h hii hl hv hin
    go_enter Tryz.func36, Tryz.ntmps36
    go_upto_region 1 with fail
    rw [← hw0, ← hg1]
    rw [← hg1] at HI0
    have HG1 := Lib.hid (show w.heap.size ≤ g1 by omega)
    clear hw0 hg1
    have c0 := HH.out.blk.cell 0
    have p0 := HP0.out.cell 0
    have p1 := HP0.out.cell 1
    have i0 := HI0.out.cell 0
    have i1 := HI0.out.cell 1
    have i2 := HI0.out.cell 2
    have i3 := HI0.out.cell 3
    have i4 := HI0.out.cell 4
    have j0 := HI0.out.frozen 0
    have j1 := HI0.out.frozen 1
    have j2 := HI0.out.frozen 2
    have j3 := HI0.out.frozen 3
    have j4 := HI0.out.frozen 4
    simp at c0 p0 p1 i0 i1 i2 i3 i4
    go_region_held3 (fun w' => w'.cell? ⟨b, 0, none⟩ = some (.int .i64 128) ∧ w'.cell? ⟨w.heap.size, 0, none⟩ = some (.string ky) ∧ w'.cell? ⟨w.heap.size, 1, none⟩ = some (.string vl)) (exact ⟨c0, p0, p1⟩)
      (first
      | (go_at_call 67
         with_reducible refine (HIn _).mono ?_
         rintro e w' ⟨rfl, rfl⟩))
    all_goals (go_wp2_with fail)
    exact bodyPost_ret (v := .agg #[.string ky, .string vl, .bool false, .int .i64 0, .int .u32 0]) (results_cell_one rfl _ _ g1 _ rfl (load_it (five_at HI0.out).drew)) rfl ⟨by rw [HE.out]; rfl, _, by rw [HE.out]; exact H.out.below (five_belowY HB0.out HG1.out).drew, LyStep.new (five_belowY HB0.out HG1.out).drew⟩
  have HE := Lib.hid (show itemY 128 L ⟨ky, vl⟩ = (L ++ (pagesL 128 3 (2 + L.length) vl).getD [], ⟨ky, ⟨#[]⟩, true, vl.size, 2 + L.length⟩) by unfold itemY; rw [if_neg (by rw [hin]; decide)]; rfl)
  rw [hin] at HIn
  have HH := Lib.hid ((h.below HB0.out))
  have HNx := fun (wx : World) (hx : LyAt wx b V L) => ynext_any hx (by omega)
  have HPg : ∀ wx : World, Calls Tryz.prog 69 #[.int .i64 128, .int .u64 3, .int .u32 ((2 + L.length : Nat) : Int), .string vl] wx (PgsPost (pagesL 128 3 (2 + L.length) vl) wx) := fun wx => rpages11_any 128 3 (2 + L.length) vl wx (by omega) (by omega)
  obtain ⟨o, ho⟩ : ∃ o, o = pagesL 128 3 (2 + L.length) vl := ⟨_, rfl⟩
  rw [← ho] at HE HPg
  obtain ⟨N, hN⟩ : ∃ N, N = 2 + L.length := ⟨_, rfl⟩
  rw [← hN] at HE HPg HNx
  have HLen := Lib.hid (show (o.getD []).length ≤ 1000000 by have := pagesY_len (size := 128) (tx := 3) (f := 2 + L.length) (v := vl) (by omega); rw [← ho] at this; exact this)
  have HL0 := Lib.hid hl
  obtain ⟨i0, hi0, hz0, hz1, hz2⟩ := info_parts infoPg11
  clear h hii hl hv hin ho hN
  go_enter Tryz.func36, Tryz.ntmps36
  go_upto_region 1 with fail
  rw [← hw0, ← hg1]
  rw [← hg1] at HI0
  have HG1 := Lib.hid (show w.heap.size ≤ g1 by omega)
  clear hw0 hg1
  replace HH := Lib.hid (HH.out.below (Below.refl _ _).drew)
  replace HP0 := Lib.hid HP0.out.drew
  replace HI0 := Lib.hid HI0.out.drew
  replace HB0 := Lib.hid HB0.out.drew
  have c0 := HH.out.blk.cell 0
  have p0 := HP0.out.cell 0
  have p1 := HP0.out.cell 1
  simp at c0 p0 p1
  go_region_held3 (fun w' => w'.cell? ⟨b, 0, none⟩ = some (.int .i64 128) ∧ w'.cell? ⟨w.heap.size, 0, none⟩ = some (.string ky) ∧ w'.cell? ⟨w.heap.size, 1, none⟩ = some (.string vl)) (exact ⟨c0, p0, p1⟩)
    (first
    | (go_at_call 67
       with_reducible refine (HIn _).mono ?_
       rintro e w' ⟨rfl, rfl⟩))
  go_upto_region 4 with (go_at_call 68; refine (HNx _ HH.out).mono ?_; rintro e w' ⟨rfl, rfl⟩)
  replace HH := Lib.hid (HH.out.below (Below.refl _ _).drew)
  replace HP0 := Lib.hid HP0.out.drew
  replace HI0 := Lib.hid HI0.out.drew
  replace HB0 := Lib.hid HB0.out.drew
  go_region_held3 (fun w' => w'.cell? ⟨b, 0, none⟩ = some (.int .i64 128) ∧ w'.cell? ⟨w.heap.size, 0, none⟩ = some (.string ky) ∧ w'.cell? ⟨w.heap.size, 1, none⟩ = some (.string vl)) (exact ⟨HH.out.c0, two_cells HP0.out⟩)
    (first
    | (go_at_call 69
       with_reducible refine (HPg _).mono ?_
       rintro e w1 hp1
       obtain ⟨A1, n1, c1, er, rfl, hr1, hb1⟩ := pgsPost_any hp1
       have HR1 := Lib.hid hr1
       replace HH := Lib.hid (HH.out.below hb1)
       replace HP0 := Lib.hid (HP0.out.below hb1 HP0.out.lt)
       replace HI0 := Lib.hid (HI0.out.below hb1 HI0.out.lt)
       replace HB0 := Lib.hid (HB0.out.trans (hb1.mono HB0.out.size))
       clear hb1 hr1 hp1))
  have hn1 := pgcs_len HR1.out
  have hlen := HLen.out
  have hl0 := HL0.out
  have cb1 := HH.out.c1
  have fb1 := HH.out.blk.frozen 1
  go_upto_region 6 with (at_builtin; refine wpList_append_any _ rfl (.tmp 38) (.tmp 39) _ rfl 0 41 i0 _ 6 48 Tryz.underlying48 hi0 hz0 hz1 hz2 rfl (by omega) V L.length _ rfl HH.out.own w1.heap.size A1 n1 c1 (pgcs (o.getD [])) rfl HR1.out (pgcs_one _) (by unfold maxLen; omega) (by omega) (Nat.zero_le _) ?_; intro v5 w5 hown5 hg5 hat5; rw [← pgcs_append] at hown5; obtain ⟨A5, c5, rfl, _, _, _⟩ := own_form hown5; have HO5 := Lib.hid hown5; have HG5 := Lib.hid hg5; have HA5 := Lib.hid hat5; have b1 := (HH.out.grown hg5 hat5).1.cell 1; have x1 := (HH.out.grown hg5 hat5).1.frozen 1; simp at b1; clear hown5 hg5 hat5)
  have HPut := HH.out.put HG5.out (L' := L ++ o.getD []) (by rw [List.length_append, hn1]; exact HO5.out) HA5.out
  obtain ⟨w6, hw6⟩ : ∃ x, x = w5.setCell ⟨b, 1, none⟩ (.slice A5 (L.length + n1) c5) := ⟨_, rfl⟩
  rw [← hw6] at HPut ⊢
  clear hw6 cb1 fb1 b1 x1 HG5 HO5 HA5
  have HH6 := Lib.hid HPut.1
  have HS6 := Lib.hid ((LyStep.new HB0.out).trans HPut.2)
  have HP6 := Lib.hid (HPut.2.kept.blk HP0.out (by rintro (h | h); exact Nat.ne_of_gt HN.out h; exact own_ne_blk HH.out.own HP0.out (by decide) h))
  have HI6 := Lib.hid (HPut.2.kept.blk HI0.out (by rintro (h | h); have := HN.out; have := HG1.out; omega; exact own_ne_blk HH.out.own HI0.out (by decide) h))
  have hgb : g1 ≠ b := by have := HN.out; have := HG1.out; omega
  have HGB := Lib.hid hgb
  clear HPut hn1 hlen hl0 hgb
  have p0 := (two_cells HP6.out).1
  have p1 := (two_cells HP6.out).2
  have i0 := HI6.out.cell 0
  have i1 := HI6.out.cell 1
  have i2 := HI6.out.cell 2
  have i3 := HI6.out.cell 3
  have i4 := HI6.out.cell 4
  have j0 := HI6.out.frozen 0
  have j1 := HI6.out.frozen 1
  have j2 := HI6.out.frozen 2
  have j3 := HI6.out.frozen 3
  have j4 := HI6.out.frozen 4
  simp at i0 i1 i2 i3 i4
  go_wp2_with fail
  exact bodyPost_ret (v := .agg #[.string ky, .string ByteArray.empty, .bool true, .int .i64 vl.size, .int .u32 N]) (results_cell_one rfl _ _ g1 _ rfl (load_it (five_at HI6.out))) rfl ⟨by rw [HE.out]; rfl, _, by rw [HE.out]; exact HH6.out.kept1 HI6.out (five_kept (Kept.refl _ _) (.inl rfl)) HGB.out (by decide), HS6.out.more (five_kept (Kept.refl _ _) (.inl rfl)) HG1.out⟩
end Go.Proofs.YtmmjckokjmpfpaaGreat

