/-
  Contract of cursor.nodeAt: the node that a page of an image is; of cursor.value: an item's value and its chain's pages.
-/
import Derived.Test.YtmmjckokjmpfpaaGreatJ23
import Derived.Test.YtmmjckokjmpfpaaGreatJ24
import Derived.Test.YtmmjckokjmpfpaaGreatJ26
import Derived.Test.YtmmjckokjmpfpaaGreatJ30
import Derived.Test.YtmmjckokjmpfpaaGreatJ35
set_option linter.unusedVariables false
set_option linter.unusedSimpArgs false
namespace Go.Proofs.YtmmjckokjmpfpaaGreat
open Go.RowKit
open Go.Lib hiding intOf
attribute [local go_sem ↓] Go.wp_at_zero Go.wp_at_succ

theorem results_cell_one {P : Program} {fn : Func} {p : Tmp} {ty : TypeId} (h : fn.results = #[.cell p ty]) (tmps : Array Value) (w : World) (g : Nat) (u : Value)
  (hp : tmps.getD p undef = .pointer (some ⟨g, 0, none⟩)) (hu : (loadVar ty ⟨g, 0, none⟩).run P w = .ok u w) :
  (results fn tmps).run P w = .ok u w := by
 have hp' : tmps[p]?.getD undef = .pointer (some ⟨g, 0, none⟩) := by simpa using hp
 simp [results, h, hp', asAddr, hu]
theorem infoNodez : (Tryz.prog.info? 136).map (fun i => (i.zero, i.size)) = some (some (.agg #[.int .i64 0, .slice none 0 0, .slice none 0 0]), 3) := by kernel_rfl
theorem load_node {w : World} {g : Nat} {a0 a1 a2 : Value} (h : Blk w g 136 #[a0, a1, a2]) : (loadVar 136 ⟨g, 0, none⟩).run Tryz.prog w = .ok (.agg #[a0, a1, a2]) w := by
 obtain ⟨hz, hi⟩ := zero_of_info infoNodez
 exact run_loadVar_row w g 136 136 #[a0, a1, a2] (0, 0) _ h Tryz.underlying136 rfl hi
theorem nodeN_is (size : Int) (s : ByteArray) (n : Nat) : nodeN size s n = if (pageOf size s n).kd = 3 then (match readF (pageOf size s n).kd (pageOf size s n).ct (pageOf size s n).pg (pageOf size s n).lk (pageOf size s n).tx (pageOf size s n).bd with | some l => .br l | none => .none) else if (pageOf size s n).kd = 4 then (match readI (pageOf size s n).kd (pageOf size s n).ct (pageOf size s n).pg (pageOf size s n).lk (pageOf size s n).tx (pageOf size s n).bd with | some l => .lf l | none => .none) else .none := by
 rcases hr : readAt size s n with _ | p
 ·rw [(errAt_none hr).2, nodeN, hr]
  rfl
 ·rw [(errAt_some hr).2, nodeN, hr]
  obtain ⟨kd, ct, pg, lk, tx, bd⟩ := p
  simp only [Pg.node]
  by_cases h3 : kd = 3
  ·subst h3
   simp only [if_true]
   rcases hf : readF 3 ct pg lk tx bd with _ | l
   ·rcases hi : readI 3 ct pg lk tx bd with _ | l
    ·rfl
    ·have := (readI_kd hi).1
     omega
   ·rfl
  ·rw [if_neg h3]
   rcases hf : readF kd ct pg lk tx bd with _ | l
   ·by_cases h4 : kd = 4
    ·rw [if_pos h4]
     rfl
    ·rw [if_neg h4]
     rcases hi : readI kd ct pg lk tx bd with _ | l
     ·rfl
     ·exact absurd (readI_kd hi).1 h4
   ·exact absurd (readF_kd hf).1 h3
theorem pageOf_bd (size : Int) (s : ByteArray) (n : Nat) : (pageOf size s n).bd.size ≤ 100000 := by
 rcases hr : readAt size s n with _ | p
 ·rw [(errAt_none hr).2]; decide
 ·rw [(errAt_some hr).2]
  have := readAt_body hr
  omega
def NodePost (o : Nd) (w : World) (e : Ending) (w' : World) : Prop := Below w.heap.size w w' ∧ match o with
 | .none => e = .returned (.agg #[.int .i64 0, .slice none 0 0, .slice none 0 0])
 | .br l => ∃ A n c, e = .returned (.agg #[.int .i64 3, .slice A n c, .slice none 0 0]) ∧ ReadsN w.heap.size w' 2 A n (fkc l) ∧ n ≤ c ∧ c ≤ maxLen
 | .lf l => ∃ A n c, e = .returned (.agg #[.int .i64 4, .slice none 0 0, .slice A n c]) ∧ ReadsN w.heap.size w' 5 A n (itc l) ∧ n ≤ c ∧ c ≤ maxLen
theorem set3 {w : World} {g : Nat} {t : TypeId} {a0 a1 a2 : Value} (b0 b1 b2 : Value) (h : Blk w g t #[a0, a1, a2]) : Blk (((w.setCell ⟨g, 0, none⟩ b0).setCell ⟨g, 1, none⟩ b1).setCell ⟨g, 2, none⟩ b2) g t #[b0, b1, b2] := by
 have := ((h.set_ 0 b0).set_ 1 b1).set_ 2 b2
 simpa using this
theorem below3 {w w' : World} {B g : Nat} (b0 b1 b2 : Value) (h : Below B w w') (hg : B ≤ g) : Below B w (((w'.setCell ⟨g, 0, none⟩ b0).setCell ⟨g, 1, none⟩ b1).setCell ⟨g, 2, none⟩ b2) :=
 ((h.setCell (p := ⟨g, 0, none⟩) hg b0).setCell (p := ⟨g, 1, none⟩) hg b1).setCell (p := ⟨g, 2, none⟩) hg b2
theorem keep4 {w : World} {g q i lo size n : Nat} {A : Option Addr} {xs : List Value} (u b0 b1 b2 : Value) (h : Reads w w.heap.size size A n xs) (hlo : ∀ ad, A = some ad → lo ≤ ad.block) (hg : g < lo) (hq : q < lo) :
  Reads ((((w.setCell ⟨q, i, none⟩ u).setCell ⟨g, 0, none⟩ b0).setCell ⟨g, 1, none⟩ b1).setCell ⟨g, 2, none⟩ b2) ((((w.setCell ⟨q, i, none⟩ u).setCell ⟨g, 0, none⟩ b0).setCell ⟨g, 1, none⟩ b1).setCell ⟨g, 2, none⟩ b2).heap.size size A n xs := by
 refine (h.keep_from hlo fun p hp => ?_).more (by simp [World.setCell])
 rw [World.cell?_setCell_other _ _ _ _ (fun e => by subst e; simp at hp; omega), World.cell?_setCell_other _ _ _ _ (fun e => by subst e; simp at hp; omega), World.cell?_setCell_other _ _ _ _ (fun e => by subst e; simp at hp; omega), World.cell?_setCell_other _ _ _ _ (fun e => by subst e; simp at hp; omega)]
set_option maxRecDepth 100000 in
set_option maxHeartbeats 12800000 in
theorem nodeAt_any (size : Int) (s : ByteArray) (n : Nat) (w : World) (hs : s.size ≤ 1000000) (hn : n < 4294967296) :
  Calls Tryz.prog 73 #[.int .i64 size, .string s, .int .u32 n] w (NodePost (nodeN size s n) w) := by
 have HN := Lib.hid (nodeN_is size s n)
 have HRd := Lib.hid (fun (w : World) => fread_all size s n w (Nat.le_trans hs (by decide)) hn)
 have hbd := pageOf_bd size s n
 obtain ⟨o, ho⟩ : ∃ o, o = nodeN size s n := ⟨_, rfl⟩
 obtain ⟨x, hx⟩ : ∃ x, x = errAt size s n := ⟨_, rfl⟩
 obtain ⟨q, hq⟩ : ∃ q, q = pageOf size s n := ⟨_, rfl⟩
 rw [← ho] at HN ⊢
 rw [← hx, ← hq] at HRd
 rw [← hq] at HN hbd
 obtain ⟨qk, qc, qp, ql, qt, qb⟩ := q
 simp only [Pg.agg] at HRd
 have HBd := Lib.hid hbd
 clear ho hx hq hs hn hbd
 obtain ⟨hz, hi0⟩ := zero_of_info infoNodez
 have HI := Lib.hid hi0
 obtain ⟨hzp, hip⟩ := zero_of_info infoPg
 have HIP := Lib.hid hip
 clear hi0 hip
 obtain ⟨w0, hw0⟩ : ∃ x, x = w.alloc (.cells #[.int .i64 0, .slice none 0 0, .slice none 0 0] 136) := ⟨_, rfl⟩
 have R0 := Lib.hid (show Blk w0 w.heap.size 136 #[.int .i64 0, .slice none 0 0, .slice none 0 0] by rw [hw0]; exact Blk.new _ _ _)
 have HB := Lib.hid (show Below w.heap.size w w0 by rw [hw0]; exact (Below.refl _ _).alloc (Nat.le_refl _) _)
 go_enter Tryz.func73, Tryz.ntmps73
 go_wp2_with fail
 rw [← hw0]
 clear hw0
 refine (HRd.out _).mono ?_
 rintro e w1 ⟨rfl, hb⟩
 replace R0 := Lib.hid (R0.out.below hb R0.out.lt)
 replace HB := Lib.hid (HB.out.trans (hb.mono HB.out.size))
 clear hb HRd
 go_upto_region 3 with fail
 obtain ⟨w3, hw3⟩ : ∃ y, y = (w1.alloc (.cells #[.int .i64 qk, .int .i64 qc, .int .u32 qp, .int .u32 ql, .int .u64 qt, .string qb] 41)).alloc (.cells #[.int .i64 qk, .slice none 0 0, .slice none 0 0] 136) := ⟨_, rfl⟩
 have Pp := Lib.hid (show Blk w3 w1.heap.size 41 #[.int .i64 qk, .int .i64 qc, .int .u32 qp, .int .u32 ql, .int .u64 qt, .string qb] by rw [hw3]; exact (Blk.new _ _ _).alloc _)
 have Q := Lib.hid (show Blk w3 (w1.heap.size + 1) 136 #[.int .i64 qk, .slice none 0 0, .slice none 0 0] by rw [hw3]; have := Blk.new (w1.alloc (.cells #[.int .i64 qk, .int .i64 qc, .int .u32 qp, .int .u32 ql, .int .u64 qt, .string qb] 41)) 136 #[.int .i64 qk, .slice none 0 0, .slice none 0 0]; simpa using this)
 have HZ := Lib.hid R0.out.lt
 replace R0 := Lib.hid (show Blk w3 w.heap.size 136 #[.int .i64 0, .slice none 0 0, .slice none 0 0] by rw [hw3]; exact (R0.out.alloc _).alloc _)
 replace HB := Lib.hid (show Below w.heap.size w w3 by rw [hw3]; exact (HB.out.alloc HB.out.size _).alloc (by simp; have := HB.out.size; omega) _)
 rw [← hw3]
 clear hw3
 obtain ⟨gP, hgP⟩ : ∃ g, g = w1.heap.size := ⟨_, rfl⟩
 rw [← hgP] at Pp Q HZ ⊢
 clear hgP
 have p0 := Pp.out.cell 0
 have p1 := Pp.out.cell 1
 have p2 := Pp.out.cell 2
 have p3 := Pp.out.cell 3
 have p4 := Pp.out.cell 4
 have p5 := Pp.out.cell 5
 simp at p0 p1 p2 p3 p4 p5
 by_cases h3 : qk = 3
 ·subst h3
  have HO := Lib.hid (show o = (match readF 3 qc qp ql qt qb with | some l => .br l | none => .none) by have := HN.out; simpa using this)
  clear HN
  go_wp2_with fail
  refine (bof7_new 3 qc qp ql qt qb _ HBd.out).mono ?_
  rintro e w4 hp
  rcases hf : readF 3 qc qp ql qt qb with _ | l
  ·rw [hf] at hp HO
   obtain ⟨rfl, hb⟩ := hp
   replace R0 := Lib.hid (R0.out.below hb R0.out.lt)
   replace Q := Lib.hid (Q.out.below hb Q.out.lt)
   replace HB := Lib.hid (HB.out.trans (hb.mono HB.out.size))
   clear hb hf p0 p1 p2 p3 p4 p5 Pp
   have q1 := Q.out.cell 1
   have f1 := Q.out.frozen 1
   simp at q1
   have S0 := Lib.hid (R0.out.far (p := ⟨gP + 1, 1, none⟩) (show w.heap.size ≠ gP + 1 by have := HZ.out; omega) (.slice none 0 0))
   have HS := Lib.hid (HB.out.setCell (p := ⟨gP + 1, 1, none⟩) (show w.heap.size ≤ gP + 1 by have := HZ.out; omega) (.slice none 0 0))
   have r0 := S0.out.cell 0
   have r1 := S0.out.cell 1
   have r2 := S0.out.cell 2
   have g0 := S0.out.frozen 0
   have g1 := S0.out.frozen 1
   have g2 := S0.out.frozen 2
   simp at r0 r1 r2
   go_wp2_with fail
   exact bodyPost_ret (v := .agg #[.int .i64 0, .slice none 0 0, .slice none 0 0]) (results_cell_one rfl _ _ w.heap.size _ rfl (load_node (set3 _ _ _ S0.out))) rfl ⟨below3 _ _ _ HS.out (Nat.le_refl _), by rw [HO.out]⟩
  ·rw [hf] at hp HO
   obtain ⟨A, n, c, rfl, hrd, hnc, hcm, hb, hlo⟩ := hp
   have HRw := Lib.hid hrd
   have HC := Lib.hid hnc
   have HMx := Lib.hid hcm
   have HL := Lib.hid hlo
   have HQl := Lib.hid Q.out.lt
   have HRl := Lib.hid R0.out.lt
   replace R0 := Lib.hid (R0.out.below hb R0.out.lt)
   replace Q := Lib.hid (Q.out.below hb Q.out.lt)
   have HB3 := Lib.hid HB.out.size
   replace HB := Lib.hid (HB.out.trans (hb.mono HB.out.size))
   clear hb hf p0 p1 p2 p3 p4 p5 Pp hrd hnc hcm hlo
   have q1 := Q.out.cell 1
   have f1 := Q.out.frozen 1
   simp at q1
   have S0 := Lib.hid (R0.out.far (p := ⟨gP + 1, 1, none⟩) (show w.heap.size ≠ gP + 1 by have := HZ.out; omega) (.slice A n c))
   have Q0 := Lib.hid (Q.out.set_ 1 (.slice A n c))
   have HS := Lib.hid (HB.out.setCell (p := ⟨gP + 1, 1, none⟩) (show w.heap.size ≤ gP + 1 by have := HZ.out; omega) (.slice A n c))
   have k0 := Q0.out.cell 0
   have k1 := Q0.out.cell 1
   have k2 := Q0.out.cell 2
   have r0 := S0.out.cell 0
   have r1 := S0.out.cell 1
   have r2 := S0.out.cell 2
   have g0 := S0.out.frozen 0
   have g1 := S0.out.frozen 1
   have g2 := S0.out.frozen 2
   simp at r0 r1 r2 k0 k1 k2
   go_wp2_with fail
   exact bodyPost_ret (v := .agg #[.int .i64 3, .slice A n c, .slice none 0 0]) (results_cell_one rfl _ _ w.heap.size _ rfl (load_node (set3 _ _ _ S0.out))) rfl ⟨below3 _ _ _ HS.out (Nat.le_refl _), by rw [HO.out]; exact ⟨A, n, c, rfl, ⟨keep4 _ _ _ _ HRw.out HL.out HRl.out HQl.out, fun ad e => Nat.le_trans HB3.out (HL.out ad e)⟩, HC.out, HMx.out⟩⟩
 by_cases h4 : qk = 4
 ·subst h4
  have HO := Lib.hid (show o = (match readI 4 qc qp ql qt qb with | some l => .lf l | none => .none) by have := HN.out; simpa using this)
  clear HN
  go_wp2_with fail
  refine (lof8_new 4 qc qp ql qt qb _ HBd.out).mono ?_
  rintro e w4 hp
  rcases hf : readI 4 qc qp ql qt qb with _ | l
  ·rw [hf] at hp HO
   obtain ⟨rfl, hb⟩ := hp
   replace R0 := Lib.hid (R0.out.below hb R0.out.lt)
   replace Q := Lib.hid (Q.out.below hb Q.out.lt)
   replace HB := Lib.hid (HB.out.trans (hb.mono HB.out.size))
   clear hb hf p0 p1 p2 p3 p4 p5 Pp
   have q2 := Q.out.cell 2
   have f1 := Q.out.frozen 2
   simp at q2
   have S0 := Lib.hid (R0.out.far (p := ⟨gP + 1, 2, none⟩) (show w.heap.size ≠ gP + 1 by have := HZ.out; omega) (.slice none 0 0))
   have HS := Lib.hid (HB.out.setCell (p := ⟨gP + 1, 2, none⟩) (show w.heap.size ≤ gP + 1 by have := HZ.out; omega) (.slice none 0 0))
   have r0 := S0.out.cell 0
   have r1 := S0.out.cell 1
   have r2 := S0.out.cell 2
   have g0 := S0.out.frozen 0
   have g1 := S0.out.frozen 1
   have g2 := S0.out.frozen 2
   simp at r0 r1 r2
   go_wp2_with fail
   exact bodyPost_ret (v := .agg #[.int .i64 0, .slice none 0 0, .slice none 0 0]) (results_cell_one rfl _ _ w.heap.size _ rfl (load_node (set3 _ _ _ S0.out))) rfl ⟨below3 _ _ _ HS.out (Nat.le_refl _), by rw [HO.out]⟩
  ·rw [hf] at hp HO
   obtain ⟨A, n, c, rfl, hrd, hnc, hcm, hb, hlo⟩ := hp
   have HRw := Lib.hid hrd
   have HC := Lib.hid hnc
   have HMx := Lib.hid hcm
   have HL := Lib.hid hlo
   have HQl := Lib.hid Q.out.lt
   have HRl := Lib.hid R0.out.lt
   replace R0 := Lib.hid (R0.out.below hb R0.out.lt)
   replace Q := Lib.hid (Q.out.below hb Q.out.lt)
   have HB3 := Lib.hid HB.out.size
   replace HB := Lib.hid (HB.out.trans (hb.mono HB.out.size))
   clear hb hf p0 p1 p2 p3 p4 p5 Pp hrd hnc hcm hlo
   have q2 := Q.out.cell 2
   have f1 := Q.out.frozen 2
   simp at q2
   have S0 := Lib.hid (R0.out.far (p := ⟨gP + 1, 2, none⟩) (show w.heap.size ≠ gP + 1 by have := HZ.out; omega) (.slice A n c))
   have Q0 := Lib.hid (Q.out.set_ 2 (.slice A n c))
   have HS := Lib.hid (HB.out.setCell (p := ⟨gP + 1, 2, none⟩) (show w.heap.size ≤ gP + 1 by have := HZ.out; omega) (.slice A n c))
   have k0 := Q0.out.cell 0
   have k1 := Q0.out.cell 1
   have k2 := Q0.out.cell 2
   have r0 := S0.out.cell 0
   have r1 := S0.out.cell 1
   have r2 := S0.out.cell 2
   have g0 := S0.out.frozen 0
   have g1 := S0.out.frozen 1
   have g2 := S0.out.frozen 2
   simp at r0 r1 r2 k0 k1 k2
   go_wp2_with fail
   exact bodyPost_ret (v := .agg #[.int .i64 4, .slice none 0 0, .slice A n c]) (results_cell_one rfl _ _ w.heap.size _ rfl (load_node (set3 _ _ _ S0.out))) rfl ⟨below3 _ _ _ HS.out (Nat.le_refl _), by rw [HO.out]; exact ⟨A, n, c, rfl, ⟨keep4 _ _ _ _ HRw.out HL.out HRl.out HQl.out, fun ad e => Nat.le_trans HB3.out (HL.out ad e)⟩, HC.out, HMx.out⟩⟩
 ·have HO := Lib.hid (show o = .none by have := HN.out; rw [if_neg h3, if_neg h4] at this; exact this)
  clear HN p1 p2 p3 p4 p5
  have r0 := R0.out.cell 0
  have r1 := R0.out.cell 1
  have r2 := R0.out.cell 2
  have g0 := R0.out.frozen 0
  have g1 := R0.out.frozen 1
  have g2 := R0.out.frozen 2
  simp at r0 r1 r2
  go_wp2_with fail
  exact bodyPost_ret (v := .agg #[.int .i64 0, .slice none 0 0, .slice none 0 0]) (results_cell_one rfl _ _ w.heap.size _ rfl (load_node (set3 _ _ _ R0.out))) rfl ⟨below3 _ _ _ HB.out (Nat.le_refl _), by rw [HO.out]⟩
def valE (size : Int) (o : Option (ByteArray × List Nat)) : Int := if o.isSome then 0 else rdErr size none
theorem valE_read {size : Int} {s : ByteArray} {head : Nat} {len : Int} : rdErr size (readV size s head len) = valE size (readV size s head len) := by
 unfold valE
 rcases h : readV size s head len with _ | x
 ·rfl
 ·rcases hg : goodSize size with _ | _
  ·rw [readV_bad hg] at h; cases h
  ·unfold rdErr
   rw [hg]
   rfl
set_option maxRecDepth 100000 in
set_option maxHeartbeats 3200000 in
theorem value_any (size : Int) (s : ByteArray) (i : It) (w : World) (hs : s.size ≤ 1000000) (hi : i.hd < 4294967296) (hl9 : -9223372036854775808 ≤ i.ln ∧ i.ln ≤ 9223372036854775807) :
  Calls Tryz.prog 41 #[.int .i64 size, .string s, .agg #[.string i.ky, .string i.vl, .bool i.ov, .int .i64 i.ln, .int .u32 i.hd]] w fun e w' => ∃ A n c, e = .returned (.tuple #[.string (rdStr (valN size s i)), .slice A n c, .int .i64 (valE size (valN size s i))]) ∧ ReadsN w.heap.size w' 1 A n (ucells (rdPs (valN size s i))) ∧ Below w.heap.size w w' := by
 have HRd := Lib.hid (fun (w : World) => hread_new size s i.hd i.ln w hs hi hl9)
 have HE := Lib.hid (valE_read (size := size) (s := s) (head := i.hd) (len := i.ln))
 obtain ⟨o, ho⟩ : ∃ o, o = readV size s i.hd i.ln := ⟨_, rfl⟩
 have hv : valN size s i = if i.ov then o else some (i.vl, []) := by rw [valN, ho]
 rw [← ho] at HRd HE
 rw [hv]
 clear ho hs hi hl9 hv
 obtain ⟨ky, vl, ov, ln, hd⟩ := i
 dsimp only at *
 obtain ⟨w0, hw0⟩ : ∃ x, x = w.alloc (.cells #[.string ky, .string vl, .bool ov, .int .i64 ln, .int .u32 hd] 76) := ⟨_, rfl⟩
 have B := Lib.hid (show Blk w0 w.heap.size 76 #[.string ky, .string vl, .bool ov, .int .i64 ln, .int .u32 hd] by rw [hw0]; exact Blk.new _ _ _)
 have HB := Lib.hid (show Below w.heap.size w w0 by rw [hw0]; exact (Below.refl _ _).alloc (Nat.le_refl _) _)
 cases ov
 ·go_enter Tryz.func41, Tryz.ntmps41
  go_upto_region 1 with fail
  rw [← hw0]
  clear hw0
  have b1 := B.out.cell 1
  have b2 := B.out.cell 2
  simp at b1 b2
  go_wp2_with fail
  go_ret3
  first
   | exact ⟨none, 0, 0, rfl, ReadsN.none_, HB.out⟩
   | exact ⟨none, 0, ⟨0, rfl⟩, ReadsN.none_, HB.out⟩
 ·go_enter Tryz.func41, Tryz.ntmps41
  go_upto_region 1 with fail
  rw [← hw0]
  clear hw0
  have b2 := B.out.cell 2
  have b3 := B.out.cell 3
  have b4 := B.out.cell 4
  simp at b2 b3 b4
  go_wp2_with fail
  refine (HRd.out _).mono ?_
  rintro e w1 ⟨A, n, c, rfl, hr, hb⟩
  rw [HE.out]
  have HR := Lib.hid (show ReadsN w.heap.size w1 1 A n (ucells (rdPs o)) from ⟨hr.1, fun ad e => Nat.le_trans HB.out.size (hr.2 ad e)⟩)
  have HB1 := Lib.hid (HB.out.trans (hb.mono HB.out.size))
  clear hr hb
  go_wp2_with fail
  go_ret3
  first
   | exact ⟨A, n, c, rfl, HR.out, HB1.out⟩
   | exact ⟨A, n, ⟨c, rfl⟩, HR.out, HB1.out⟩
end Go.Proofs.YtmmjckokjmpfpaaGreat

