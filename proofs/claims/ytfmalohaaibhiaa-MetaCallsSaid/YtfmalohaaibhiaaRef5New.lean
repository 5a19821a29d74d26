/-
  Contracts of the reference's Both of layer 5: what is read of the two first pages, by what they are.
-/
import Derived.Test.YtfmalohaaibhiaaRef5At
import Derived.Test.YtfmalohaaibhiaaMetaBoth
import Derived.Test.YtfmalohaaibhiaaMetaNew
namespace Go.Proofs.Ytfmalohaaibhiaa
open Go.RowKit
open Go.Lib hiding intOf
set_option linter.unusedVariables false
set_option linter.unusedSimpArgs false
attribute [local go_sem ↓] Go.wp_at_zero Go.wp_at_succ

theorem metaAt_false {size : Int} {s : ByteArray} {n tx : Nat} {z : Int} {rt fr ps : Nat} (h : MetaAt size s n tx z rt fr ps false) : tx = 0 ∧ z = 0 ∧ rt = 0 ∧ fr = 0 ∧ ps = 0 := by
  rcases h with ⟨q, _, _, _, _, _, _, _, hr⟩ | ⟨_, h1, h2, h3, h4, h5, _⟩
  · cases hr
  · exact ⟨h1, h2, h3, h4, h5⟩

set_option maxHeartbeats 3200000 in
theorem both_sa {w : World} {b c : Nat} {t : TypeId} {y0 y1 y2 y3 y4 y5 y6 y7 y8 y9 v0 v1 v2 v3 v4 v5 v6 v7 v8 v9 x0 x1 : Value} (h : Blk w b t #[y0, y1, y2, y3, y4, y5, y6, y7, y8, y9]) (hne : b ≠ c) : Blk (((((((((((((w.setCell ⟨b, 0, none⟩ v0).setCell ⟨b, 1, none⟩ v1).setCell ⟨b, 2, none⟩ v2).setCell ⟨b, 3, none⟩ v3).setCell ⟨b, 4, none⟩ v4).setCell ⟨b, 5, none⟩ v5).setCell ⟨b, 6, none⟩ v6).setCell ⟨b, 7, none⟩ v7).setCell ⟨b, 8, none⟩ v8).setCell ⟨b, 9, none⟩ v9).setCell ⟨c, 0, none⟩ x0).setCell ⟨c, 1, none⟩ x1).drew) b t #[v0, v1, v2, v3, v4, v5, v6, v7, v8, v9] :=
  (((ten_hi (ten_lo h)).far hne x0).far hne x1).drew
set_option maxHeartbeats 3200000 in
theorem both_sb {w : World} {b c : Nat} {t : TypeId} {y0 y1 v0 v1 v2 v3 v4 v5 v6 v7 v8 v9 x0 x1 : Value} (h : Blk w c t #[y0, y1]) (hne : c ≠ b) : Blk (((((((((((((w.setCell ⟨b, 0, none⟩ v0).setCell ⟨b, 1, none⟩ v1).setCell ⟨b, 2, none⟩ v2).setCell ⟨b, 3, none⟩ v3).setCell ⟨b, 4, none⟩ v4).setCell ⟨b, 5, none⟩ v5).setCell ⟨b, 6, none⟩ v6).setCell ⟨b, 7, none⟩ v7).setCell ⟨b, 8, none⟩ v8).setCell ⟨b, 9, none⟩ v9).setCell ⟨c, 0, none⟩ x0).setCell ⟨c, 1, none⟩ x1).drew) c t #[x0, x1] :=
  ((((((((((((h.far hne v0).far hne v1).far hne v2).far hne v3).far hne v4).far hne v5).far hne v6).far hne v7).far hne v8).far hne v9).set_ 0 x0).set_ 1 x1).drew

def mcs (t0 : Nat) (z0 : Int) (r0 f0 p0 t1 : Nat) (z1 : Int) (r1 f1 p1 : Nat) : Nat → Array Value
  | 0 => #[.int .u64 0, .int .i64 0, .int .u32 0, .int .u32 0, .int .u32 0, .int .u64 0, .int .i64 0, .int .u32 0, .int .u32 0, .int .u32 0]
  | 1 => #[.int .u64 t0, .int .i64 z0, .int .u32 r0, .int .u32 f0, .int .u32 p0, .int .u64 0, .int .i64 0, .int .u32 0, .int .u32 0, .int .u32 0]
  | _ => #[.int .u64 t0, .int .i64 z0, .int .u32 r0, .int .u32 f0, .int .u32 p0, .int .u64 t1, .int .i64 z1, .int .u32 r1, .int .u32 f1, .int .u32 p1]
def bcs (b0 b1 : Bool) : Nat → Array Value
  | 0 => #[.bool false, .bool false]
  | 1 => #[.bool b0, .bool false]
  | _ => #[.bool b0, .bool b1]

set_option maxRecDepth 100000 in
set_option maxHeartbeats 12800000 in
theorem rboth_any (size : Int) (s : ByteArray) (t0 : Nat) (z0 : Int) (r0 f0 p0 : Nat) (b0 : Bool) (t1 : Nat) (z1 : Int) (r1 f1 p1 : Nat) (b1 : Bool) (w : World) (h0 : MetaAt size s 0 t0 z0 r0 f0 p0 b0) (h1 : MetaAt size s 1 t1 z1 r1 f1 p1 b1) (hs : s.size ≤ maxLen) :
    Calls Try.prog 20 #[.int .i64 size, .string s] w fun e w' => e = .returned (.tuple #[.agg #[.int .u64 t0, .int .i64 z0, .int .u32 r0, .int .u32 f0, .int .u32 p0, .int .u64 t1, .int .i64 z1, .int .u32 r1, .int .u32 f1, .int .u32 p1], .agg #[.bool b0, .bool b1]]) ∧ Below w.heap.size w w' := by
  have W0 := rat_ways size s 0 t0 z0 r0 f0 p0 b0 h0 hs (by decide)
  have W1 := rat_ways size s 1 t1 z1 r1 f1 p1 b1 h1 hs (by decide)
  have F0 : b0 = false → t0 = 0 ∧ z0 = 0 ∧ r0 = 0 ∧ f0 = 0 ∧ p0 = 0 := fun h => by rw [h] at h0; exact metaAt_false h0
  have F1 : b1 = false → t1 = 0 ∧ z1 = 0 ∧ r1 = 0 ∧ f1 = 0 ∧ p1 = 0 := fun h => by rw [h] at h1; exact metaAt_false h1
  clear h0 h1 hs
  have V0 := Lib.hid W0
  have V1 := Lib.hid W1
  have G0 := Lib.hid F0
  have G1 := Lib.hid F1
  clear W0 W1 F0 F1
  obtain ⟨hz, hi⟩ := zero_of_info infoM2
  obtain ⟨hy, hj⟩ := zero_of_info infoB2
  obtain ⟨hx, hm⟩ := zero_of_info infoMt
  have HI := Lib.hid hi
  have HJ := Lib.hid hj
  have HM := Lib.hid hm
  clear hi hj hm
  have HB := Lib.hid (Below.refl w.heap.size w)
  go_enter Try.func20, Try.ntmps20
  obtain ⟨v102, hv102⟩ : ∃ x, x = w.alloc (.cells #[.int .u64 0, .int .i64 0, .int .u32 0, .int .u32 0, .int .u32 0, .int .u64 0, .int .i64 0, .int .u32 0, .int .u32 0, .int .u32 0] 36) := ⟨_, rfl⟩
  have sav102 : w.heap.size = w.heap.size := by first | rfl | omega
  have ge_Ra := Lib.hid (show w.heap.size ≤ w.heap.size from sav102 ▸ HB.out.size)
  replace HB := Lib.hid (show Below w.heap.size w v102 by rw [hv102]; exact HB.out.alloc HB.out.size _)
  have Ra := Lib.hid (show Blk v102 w.heap.size 36 #[.int .u64 0, .int .i64 0, .int .u32 0, .int .u32 0, .int .u32 0, .int .u64 0, .int .i64 0, .int .u32 0, .int .u32 0, .int .u32 0] by rw [hv102, ← sav102]; exact Blk.new _ _ _)
  have szv102 : v102.heap.size = w.heap.size + 1 := by rw [hv102]; simp
  obtain ⟨v103, hv103⟩ : ∃ x, x = v102.alloc (.cells #[.bool false, .bool false] 37) := ⟨_, rfl⟩
  have sav103 : v102.heap.size = (w.heap.size + 1) := by first | rfl | omega
  have lt_Ra_Rb := Lib.hid (show w.heap.size < (w.heap.size + 1) from sav103 ▸ Ra.out.lt)
  replace Ra := Lib.hid (show Blk v103 w.heap.size 36 #[.int .u64 0, .int .i64 0, .int .u32 0, .int .u32 0, .int .u32 0, .int .u64 0, .int .i64 0, .int .u32 0, .int .u32 0, .int .u32 0] by rw [hv103]; exact Ra.out.alloc _)
  have ge_Rb := Lib.hid (show w.heap.size ≤ (w.heap.size + 1) from sav103 ▸ HB.out.size)
  replace HB := Lib.hid (show Below w.heap.size w v103 by rw [hv103]; exact HB.out.alloc HB.out.size _)
  have Rb := Lib.hid (show Blk v103 (w.heap.size + 1) 37 #[.bool false, .bool false] by rw [hv103, ← sav103]; exact Blk.new _ _ _)
  have szv103 : v103.heap.size = v102.heap.size + 1 := by rw [hv103]; simp
  obtain ⟨v104, hv104⟩ : ∃ x, x = v103.alloc (.cells #[.int .u64 0, .int .i64 0, .int .u32 0, .int .u32 0, .int .u32 0, .int .u64 0, .int .i64 0, .int .u32 0, .int .u32 0, .int .u32 0] 36) := ⟨_, rfl⟩
  have sav104 : v103.heap.size = (w.heap.size + 2) := by first | rfl | omega
  have lt_Ra_M := Lib.hid (show w.heap.size < (w.heap.size + 2) from sav104 ▸ Ra.out.lt)
  replace Ra := Lib.hid (show Blk v104 w.heap.size 36 #[.int .u64 0, .int .i64 0, .int .u32 0, .int .u32 0, .int .u32 0, .int .u64 0, .int .i64 0, .int .u32 0, .int .u32 0, .int .u32 0] by rw [hv104]; exact Ra.out.alloc _)
  have lt_Rb_M := Lib.hid (show (w.heap.size + 1) < (w.heap.size + 2) from sav104 ▸ Rb.out.lt)
  replace Rb := Lib.hid (show Blk v104 (w.heap.size + 1) 37 #[.bool false, .bool false] by rw [hv104]; exact Rb.out.alloc _)
  have ge_M := Lib.hid (show w.heap.size ≤ (w.heap.size + 2) from sav104 ▸ HB.out.size)
  replace HB := Lib.hid (show Below w.heap.size w v104 by rw [hv104]; exact HB.out.alloc HB.out.size _)
  have M := Lib.hid (show Blk v104 (w.heap.size + 2) 36 #[.int .u64 0, .int .i64 0, .int .u32 0, .int .u32 0, .int .u32 0, .int .u64 0, .int .i64 0, .int .u32 0, .int .u32 0, .int .u32 0] by rw [hv104, ← sav104]; exact Blk.new _ _ _)
  have szv104 : v104.heap.size = v103.heap.size + 1 := by rw [hv104]; simp
  obtain ⟨w101, hw101⟩ : ∃ x, x = v104.alloc (.cells #[.bool false, .bool false] 37) := ⟨_, rfl⟩
  have saw101 : v104.heap.size = (w.heap.size + 3) := by first | rfl | omega
  have lt_Ra_R := Lib.hid (show w.heap.size < (w.heap.size + 3) from saw101 ▸ Ra.out.lt)
  replace Ra := Lib.hid (show Blk w101 w.heap.size 36 #[.int .u64 0, .int .i64 0, .int .u32 0, .int .u32 0, .int .u32 0, .int .u64 0, .int .i64 0, .int .u32 0, .int .u32 0, .int .u32 0] by rw [hw101]; exact Ra.out.alloc _)
  have lt_Rb_R := Lib.hid (show (w.heap.size + 1) < (w.heap.size + 3) from saw101 ▸ Rb.out.lt)
  replace Rb := Lib.hid (show Blk w101 (w.heap.size + 1) 37 #[.bool false, .bool false] by rw [hw101]; exact Rb.out.alloc _)
  have lt_M_R := Lib.hid (show (w.heap.size + 2) < (w.heap.size + 3) from saw101 ▸ M.out.lt)
  replace M := Lib.hid (show Blk w101 (w.heap.size + 2) 36 #[.int .u64 0, .int .i64 0, .int .u32 0, .int .u32 0, .int .u32 0, .int .u64 0, .int .i64 0, .int .u32 0, .int .u32 0, .int .u32 0] by rw [hw101]; exact M.out.alloc _)
  have ge_R := Lib.hid (show w.heap.size ≤ (w.heap.size + 3) from saw101 ▸ HB.out.size)
  replace HB := Lib.hid (show Below w.heap.size w w101 by rw [hw101]; exact HB.out.alloc HB.out.size _)
  have R := Lib.hid (show Blk w101 (w.heap.size + 3) 37 #[.bool false, .bool false] by rw [hw101, ← saw101]; exact Blk.new _ _ _)
  have szw101 : w101.heap.size = v104.heap.size + 1 := by rw [hw101]; simp
  clear sav102 szv102 sav103 szv103 sav104 szv104 saw101 szw101
  go_wp2_with fail
  rw [← hv102, ← hv103, ← hv104, ← hw101]
  clear hv102 hv103 hv104 hw101
  generalize w.heap.size + 3 = gR at *
  generalize w.heap.size + 2 = gM at *
  generalize w.heap.size + 1 = gRb at *
  go_loopw [8] (fun i wr => ∃ k : Nat, k ≤ 2 ∧ i = .int .i64 k ∧ Hid (Blk wr w.heap.size 36 #[.int .u64 0, .int .i64 0, .int .u32 0, .int .u32 0, .int .u32 0, .int .u64 0, .int .i64 0, .int .u32 0, .int .u32 0, .int .u32 0]) ∧ Hid (Blk wr gRb 37 #[.bool false, .bool false]) ∧ Hid (Blk wr gM 36 (mcs t0 z0 r0 f0 p0 t1 z1 r1 f1 p1 k)) ∧ Hid (Blk wr gR 37 (bcs b0 b1 k)) ∧ Hid (Below w.heap.size w wr)) (fun i _ => 2 - (intOf i).toNat)
  case atStart => exact ⟨0, Nat.zero_le _, rfl, Ra, Rb, M, R, HB⟩
  case round =>
    clear Ra Rb M R HB
    obtain ⟨k, hk, rfl, Ra, Rb, M, R, HB⟩ := hrel
    obtain rfl | rfl | rfl : k = 0 ∨ k = 1 ∨ k = 2 := by omega
    · skip
      replace M := Lib.hid (show Blk wr gM 36 #[.int .u64 0, .int .i64 0, .int .u32 0, .int .u32 0, .int .u32 0, .int .u64 0, .int .i64 0, .int .u32 0, .int .u32 0, .int .u32 0] from M.out)
      replace R := Lib.hid (show Blk wr gR 37 #[.bool false, .bool false] from R.out)
      rcases V0.out with ⟨hb0, err, herr, HR⟩ | ⟨kd, ct, pg, lk, ty, bd, x, hxx, HR, HO⟩
      · skip
        obtain ⟨rfl, rfl, rfl, rfl, rfl⟩ := G0.out hb0
        subst hb0
        have he : (err != 0) = true := by simpa using herr
        have he2 : (err == 0) = false := by simpa using herr
        clear herr
        go_wp2_with fail
        refine (HR _).mono ?_
        rintro e w105 ⟨rfl, hb⟩
        replace HB := Lib.hid (HB.out.trans (hb.mono HB.out.size))
        replace Ra := Lib.hid (Ra.out.below hb Ra.out.lt)
        replace Rb := Lib.hid (Rb.out.below hb Rb.out.lt)
        replace M := Lib.hid (M.out.below hb M.out.lt)
        replace R := Lib.hid (R.out.below hb R.out.lt)
        clear hb
        clear HR
        obtain ⟨w106, hw106⟩ : ∃ x, x = w105.alloc (.cells #[.int .i64 0, .int .i64 0, .int .u32 0, .int .u32 0, .int .u64 0, .string ByteArray.empty] 26) := ⟨_, rfl⟩
        have saw106 : w105.heap.size = w105.heap.size := by first | rfl | omega
        have lt_Ra_Pg := Lib.hid (show w.heap.size < w105.heap.size from saw106 ▸ Ra.out.lt)
        replace Ra := Lib.hid (show Blk w106 w.heap.size 36 #[.int .u64 0, .int .i64 0, .int .u32 0, .int .u32 0, .int .u32 0, .int .u64 0, .int .i64 0, .int .u32 0, .int .u32 0, .int .u32 0] by rw [hw106]; exact Ra.out.alloc _)
        have lt_Rb_Pg := Lib.hid (show gRb < w105.heap.size from saw106 ▸ Rb.out.lt)
        replace Rb := Lib.hid (show Blk w106 gRb 37 #[.bool false, .bool false] by rw [hw106]; exact Rb.out.alloc _)
        have lt_M_Pg := Lib.hid (show gM < w105.heap.size from saw106 ▸ M.out.lt)
        replace M := Lib.hid (show Blk w106 gM 36 #[.int .u64 0, .int .i64 0, .int .u32 0, .int .u32 0, .int .u32 0, .int .u64 0, .int .i64 0, .int .u32 0, .int .u32 0, .int .u32 0] by rw [hw106]; exact M.out.alloc _)
        have lt_R_Pg := Lib.hid (show gR < w105.heap.size from saw106 ▸ R.out.lt)
        replace R := Lib.hid (show Blk w106 gR 37 #[.bool false, .bool false] by rw [hw106]; exact R.out.alloc _)
        have ge_Pg := Lib.hid (show w.heap.size ≤ w105.heap.size from saw106 ▸ HB.out.size)
        replace HB := Lib.hid (show Below w.heap.size w w106 by rw [hw106]; exact HB.out.alloc HB.out.size _)
        have Pg := Lib.hid (show Blk w106 w105.heap.size 26 #[.int .i64 0, .int .i64 0, .int .u32 0, .int .u32 0, .int .u64 0, .string ByteArray.empty] by rw [hw106, ← saw106]; exact Blk.new _ _ _)
        have szw106 : w106.heap.size = w105.heap.size + 1 := by rw [hw106]; simp
        clear saw106 szw106
        go_wp2_with fail
        rw [← hw106]
        clear hw106
        generalize w105.heap.size = gPg at *
        try go_wp2
        go_roundw
        case rel => first | exact ⟨1, by decide, rfl, Ra, Rb, M, R, HB⟩ | ((repeat apply Exists.intro); exact ⟨⟨1, by decide, rfl, Ra, Rb, M, R, HB⟩, rfl⟩)
        case measure => simp [intOf]
      · rcases hxx with ⟨rfl, hb0⟩ | ⟨rfl, hb0⟩
        · skip
          subst hb0
          go_wp2_with fail
          refine (HR _).mono ?_
          rintro e w107 ⟨rfl, hb⟩
          replace HB := Lib.hid (HB.out.trans (hb.mono HB.out.size))
          replace Ra := Lib.hid (Ra.out.below hb Ra.out.lt)
          replace Rb := Lib.hid (Rb.out.below hb Rb.out.lt)
          replace M := Lib.hid (M.out.below hb M.out.lt)
          replace R := Lib.hid (R.out.below hb R.out.lt)
          clear hb
          clear HR
          obtain ⟨w108, hw108⟩ : ∃ x, x = w107.alloc (.cells #[.int .i64 kd, .int .i64 ct, .int .u32 pg, .int .u32 lk, .int .u64 ty, .string bd] 26) := ⟨_, rfl⟩
          have saw108 : w107.heap.size = w107.heap.size := by first | rfl | omega
          have lt_Ra_Pg := Lib.hid (show w.heap.size < w107.heap.size from saw108 ▸ Ra.out.lt)
          replace Ra := Lib.hid (show Blk w108 w.heap.size 36 #[.int .u64 0, .int .i64 0, .int .u32 0, .int .u32 0, .int .u32 0, .int .u64 0, .int .i64 0, .int .u32 0, .int .u32 0, .int .u32 0] by rw [hw108]; exact Ra.out.alloc _)
          have lt_Rb_Pg := Lib.hid (show gRb < w107.heap.size from saw108 ▸ Rb.out.lt)
          replace Rb := Lib.hid (show Blk w108 gRb 37 #[.bool false, .bool false] by rw [hw108]; exact Rb.out.alloc _)
          have lt_M_Pg := Lib.hid (show gM < w107.heap.size from saw108 ▸ M.out.lt)
          replace M := Lib.hid (show Blk w108 gM 36 #[.int .u64 0, .int .i64 0, .int .u32 0, .int .u32 0, .int .u32 0, .int .u64 0, .int .i64 0, .int .u32 0, .int .u32 0, .int .u32 0] by rw [hw108]; exact M.out.alloc _)
          have lt_R_Pg := Lib.hid (show gR < w107.heap.size from saw108 ▸ R.out.lt)
          replace R := Lib.hid (show Blk w108 gR 37 #[.bool false, .bool false] by rw [hw108]; exact R.out.alloc _)
          have ge_Pg := Lib.hid (show w.heap.size ≤ w107.heap.size from saw108 ▸ HB.out.size)
          replace HB := Lib.hid (show Below w.heap.size w w108 by rw [hw108]; exact HB.out.alloc HB.out.size _)
          have Pg := Lib.hid (show Blk w108 w107.heap.size 26 #[.int .i64 kd, .int .i64 ct, .int .u32 pg, .int .u32 lk, .int .u64 ty, .string bd] by rw [hw108, ← saw108]; exact Blk.new _ _ _)
          have szw108 : w108.heap.size = w107.heap.size + 1 := by rw [hw108]; simp
          clear saw108 szw108
          have cPg_0 := Pg.out.cell 0
          have cPg_1 := Pg.out.cell 1
          have cPg_2 := Pg.out.cell 2
          have cPg_3 := Pg.out.cell 3
          have cPg_4 := Pg.out.cell 4
          have cPg_5 := Pg.out.cell 5
          rw [hw108] at cPg_0 cPg_1 cPg_2 cPg_3 cPg_4 cPg_5
          simp at cPg_0 cPg_1 cPg_2 cPg_3 cPg_4 cPg_5
          go_wp2_with fail
          rw [← hw108]
          clear hw108 cPg_0 cPg_1 cPg_2 cPg_3 cPg_4 cPg_5
          generalize w107.heap.size = gPg at *
          refine (HO _).mono ?_
          rintro e w109 ⟨rfl, hb⟩
          replace HB := Lib.hid (HB.out.trans (hb.mono HB.out.size))
          replace Ra := Lib.hid (Ra.out.below hb Ra.out.lt)
          replace Rb := Lib.hid (Rb.out.below hb Rb.out.lt)
          replace M := Lib.hid (M.out.below hb M.out.lt)
          replace R := Lib.hid (R.out.below hb R.out.lt)
          replace Pg := Lib.hid (Pg.out.below hb Pg.out.lt)
          clear hb
          clear HO
          obtain ⟨w110, hw110⟩ : ∃ x, x = w109.alloc (.cells #[.int .u64 t0, .int .i64 z0, .int .u32 r0, .int .u32 f0, .int .u32 p0] 31) := ⟨_, rfl⟩
          have saw110 : w109.heap.size = w109.heap.size := by first | rfl | omega
          have lt_Ra_Mm := Lib.hid (show w.heap.size < w109.heap.size from saw110 ▸ Ra.out.lt)
          replace Ra := Lib.hid (show Blk w110 w.heap.size 36 #[.int .u64 0, .int .i64 0, .int .u32 0, .int .u32 0, .int .u32 0, .int .u64 0, .int .i64 0, .int .u32 0, .int .u32 0, .int .u32 0] by rw [hw110]; exact Ra.out.alloc _)
          have lt_Rb_Mm := Lib.hid (show gRb < w109.heap.size from saw110 ▸ Rb.out.lt)
          replace Rb := Lib.hid (show Blk w110 gRb 37 #[.bool false, .bool false] by rw [hw110]; exact Rb.out.alloc _)
          have lt_M_Mm := Lib.hid (show gM < w109.heap.size from saw110 ▸ M.out.lt)
          replace M := Lib.hid (show Blk w110 gM 36 #[.int .u64 0, .int .i64 0, .int .u32 0, .int .u32 0, .int .u32 0, .int .u64 0, .int .i64 0, .int .u32 0, .int .u32 0, .int .u32 0] by rw [hw110]; exact M.out.alloc _)
          have lt_R_Mm := Lib.hid (show gR < w109.heap.size from saw110 ▸ R.out.lt)
          replace R := Lib.hid (show Blk w110 gR 37 #[.bool false, .bool false] by rw [hw110]; exact R.out.alloc _)
          have lt_Pg_Mm := Lib.hid (show gPg < w109.heap.size from saw110 ▸ Pg.out.lt)
          replace Pg := Lib.hid (show Blk w110 gPg 26 #[.int .i64 kd, .int .i64 ct, .int .u32 pg, .int .u32 lk, .int .u64 ty, .string bd] by rw [hw110]; exact Pg.out.alloc _)
          have ge_Mm := Lib.hid (show w.heap.size ≤ w109.heap.size from saw110 ▸ HB.out.size)
          replace HB := Lib.hid (show Below w.heap.size w w110 by rw [hw110]; exact HB.out.alloc HB.out.size _)
          have Mm := Lib.hid (show Blk w110 w109.heap.size 31 #[.int .u64 t0, .int .i64 z0, .int .u32 r0, .int .u32 f0, .int .u32 p0] by rw [hw110, ← saw110]; exact Blk.new _ _ _)
          have szw110 : w110.heap.size = w109.heap.size + 1 := by rw [hw110]; simp
          clear saw110 szw110
          go_upto_region 10 with fail
          rw [← hw110]
          clear hw110
          generalize w109.heap.size = gMm at *
          have fzM_0 := M.out.frozen 0
          have fzM_1 := M.out.frozen 1
          have fzM_2 := M.out.frozen 2
          have fzM_3 := M.out.frozen 3
          have fzM_4 := M.out.frozen 4
          have fzR_0 := R.out.frozen 0
          have lzMm := Mm.out.lt
          have dMm_0 := Mm.out.cell 0
          have dMm_1 := Mm.out.cell 1
          have dMm_2 := Mm.out.cell 2
          have dMm_3 := Mm.out.cell 3
          have dMm_4 := Mm.out.cell 4
          simp at dMm_0 dMm_1 dMm_2 dMm_3 dMm_4
          have eM_0 := M.out.cell 0
          have eM_1 := M.out.cell 1
          have eM_2 := M.out.cell 2
          have eM_3 := M.out.cell 3
          have eM_4 := M.out.cell 4
          have eR_0 := R.out.cell 0
          simp at eM_0 eM_1 eM_2 eM_3 eM_4 eR_0
          obtain ⟨v112, hv112⟩ : ∃ x, x = w110.setCell ⟨gM, 0, none⟩ (.int .u64 t0) := ⟨_, rfl⟩
          replace Ra := Lib.hid (show Blk v112 w.heap.size 36 #[.int .u64 0, .int .i64 0, .int .u32 0, .int .u32 0, .int .u32 0, .int .u64 0, .int .i64 0, .int .u32 0, .int .u32 0, .int .u32 0] by rw [hv112]; exact Ra.out.far (p := ⟨gM, 0, none⟩) (Nat.ne_of_lt lt_Ra_M.out) (.int .u64 t0))
          replace Rb := Lib.hid (show Blk v112 gRb 37 #[.bool false, .bool false] by rw [hv112]; exact Rb.out.far (p := ⟨gM, 0, none⟩) (Nat.ne_of_lt lt_Rb_M.out) (.int .u64 t0))
          replace M := Lib.hid (show Blk v112 gM 36 #[.int .u64 t0, .int .i64 0, .int .u32 0, .int .u32 0, .int .u32 0, .int .u64 0, .int .i64 0, .int .u32 0, .int .u32 0, .int .u32 0] by rw [hv112]; exact M.out.set_ 0 (.int .u64 t0))
          replace R := Lib.hid (show Blk v112 gR 37 #[.bool false, .bool false] by rw [hv112]; exact R.out.far (p := ⟨gM, 0, none⟩) (Nat.ne_of_gt lt_M_R.out) (.int .u64 t0))
          replace Pg := Lib.hid (show Blk v112 gPg 26 #[.int .i64 kd, .int .i64 ct, .int .u32 pg, .int .u32 lk, .int .u64 ty, .string bd] by rw [hv112]; exact Pg.out.far (p := ⟨gM, 0, none⟩) (Nat.ne_of_gt lt_M_Pg.out) (.int .u64 t0))
          replace Mm := Lib.hid (show Blk v112 gMm 31 #[.int .u64 t0, .int .i64 z0, .int .u32 r0, .int .u32 f0, .int .u32 p0] by rw [hv112]; exact Mm.out.far (p := ⟨gM, 0, none⟩) (Nat.ne_of_gt lt_M_Mm.out) (.int .u64 t0))
          replace HB := Lib.hid (show Below w.heap.size w v112 by rw [hv112]; exact HB.out.setCell (p := ⟨gM, 0, none⟩) ge_M.out (.int .u64 t0))
          have szv112 : v112.heap.size = w110.heap.size := by rw [hv112]; simp [World.setCell]
          obtain ⟨v113, hv113⟩ : ∃ x, x = v112.setCell ⟨gM, 1, none⟩ (.int .i64 z0) := ⟨_, rfl⟩
          replace Ra := Lib.hid (show Blk v113 w.heap.size 36 #[.int .u64 0, .int .i64 0, .int .u32 0, .int .u32 0, .int .u32 0, .int .u64 0, .int .i64 0, .int .u32 0, .int .u32 0, .int .u32 0] by rw [hv113]; exact Ra.out.far (p := ⟨gM, 1, none⟩) (Nat.ne_of_lt lt_Ra_M.out) (.int .i64 z0))
          replace Rb := Lib.hid (show Blk v113 gRb 37 #[.bool false, .bool false] by rw [hv113]; exact Rb.out.far (p := ⟨gM, 1, none⟩) (Nat.ne_of_lt lt_Rb_M.out) (.int .i64 z0))
          replace M := Lib.hid (show Blk v113 gM 36 #[.int .u64 t0, .int .i64 z0, .int .u32 0, .int .u32 0, .int .u32 0, .int .u64 0, .int .i64 0, .int .u32 0, .int .u32 0, .int .u32 0] by rw [hv113]; exact M.out.set_ 1 (.int .i64 z0))
          replace R := Lib.hid (show Blk v113 gR 37 #[.bool false, .bool false] by rw [hv113]; exact R.out.far (p := ⟨gM, 1, none⟩) (Nat.ne_of_gt lt_M_R.out) (.int .i64 z0))
          replace Pg := Lib.hid (show Blk v113 gPg 26 #[.int .i64 kd, .int .i64 ct, .int .u32 pg, .int .u32 lk, .int .u64 ty, .string bd] by rw [hv113]; exact Pg.out.far (p := ⟨gM, 1, none⟩) (Nat.ne_of_gt lt_M_Pg.out) (.int .i64 z0))
          replace Mm := Lib.hid (show Blk v113 gMm 31 #[.int .u64 t0, .int .i64 z0, .int .u32 r0, .int .u32 f0, .int .u32 p0] by rw [hv113]; exact Mm.out.far (p := ⟨gM, 1, none⟩) (Nat.ne_of_gt lt_M_Mm.out) (.int .i64 z0))
          replace HB := Lib.hid (show Below w.heap.size w v113 by rw [hv113]; exact HB.out.setCell (p := ⟨gM, 1, none⟩) ge_M.out (.int .i64 z0))
          have szv113 : v113.heap.size = v112.heap.size := by rw [hv113]; simp [World.setCell]
          obtain ⟨v114, hv114⟩ : ∃ x, x = v113.setCell ⟨gM, 2, none⟩ (.int .u32 r0) := ⟨_, rfl⟩
          replace Ra := Lib.hid (show Blk v114 w.heap.size 36 #[.int .u64 0, .int .i64 0, .int .u32 0, .int .u32 0, .int .u32 0, .int .u64 0, .int .i64 0, .int .u32 0, .int .u32 0, .int .u32 0] by rw [hv114]; exact Ra.out.far (p := ⟨gM, 2, none⟩) (Nat.ne_of_lt lt_Ra_M.out) (.int .u32 r0))
          replace Rb := Lib.hid (show Blk v114 gRb 37 #[.bool false, .bool false] by rw [hv114]; exact Rb.out.far (p := ⟨gM, 2, none⟩) (Nat.ne_of_lt lt_Rb_M.out) (.int .u32 r0))
          replace M := Lib.hid (show Blk v114 gM 36 #[.int .u64 t0, .int .i64 z0, .int .u32 r0, .int .u32 0, .int .u32 0, .int .u64 0, .int .i64 0, .int .u32 0, .int .u32 0, .int .u32 0] by rw [hv114]; exact M.out.set_ 2 (.int .u32 r0))
          replace R := Lib.hid (show Blk v114 gR 37 #[.bool false, .bool false] by rw [hv114]; exact R.out.far (p := ⟨gM, 2, none⟩) (Nat.ne_of_gt lt_M_R.out) (.int .u32 r0))
          replace Pg := Lib.hid (show Blk v114 gPg 26 #[.int .i64 kd, .int .i64 ct, .int .u32 pg, .int .u32 lk, .int .u64 ty, .string bd] by rw [hv114]; exact Pg.out.far (p := ⟨gM, 2, none⟩) (Nat.ne_of_gt lt_M_Pg.out) (.int .u32 r0))
          replace Mm := Lib.hid (show Blk v114 gMm 31 #[.int .u64 t0, .int .i64 z0, .int .u32 r0, .int .u32 f0, .int .u32 p0] by rw [hv114]; exact Mm.out.far (p := ⟨gM, 2, none⟩) (Nat.ne_of_gt lt_M_Mm.out) (.int .u32 r0))
          replace HB := Lib.hid (show Below w.heap.size w v114 by rw [hv114]; exact HB.out.setCell (p := ⟨gM, 2, none⟩) ge_M.out (.int .u32 r0))
          have szv114 : v114.heap.size = v113.heap.size := by rw [hv114]; simp [World.setCell]
          obtain ⟨v115, hv115⟩ : ∃ x, x = v114.setCell ⟨gM, 3, none⟩ (.int .u32 f0) := ⟨_, rfl⟩
          replace Ra := Lib.hid (show Blk v115 w.heap.size 36 #[.int .u64 0, .int .i64 0, .int .u32 0, .int .u32 0, .int .u32 0, .int .u64 0, .int .i64 0, .int .u32 0, .int .u32 0, .int .u32 0] by rw [hv115]; exact Ra.out.far (p := ⟨gM, 3, none⟩) (Nat.ne_of_lt lt_Ra_M.out) (.int .u32 f0))
          replace Rb := Lib.hid (show Blk v115 gRb 37 #[.bool false, .bool false] by rw [hv115]; exact Rb.out.far (p := ⟨gM, 3, none⟩) (Nat.ne_of_lt lt_Rb_M.out) (.int .u32 f0))
          replace M := Lib.hid (show Blk v115 gM 36 #[.int .u64 t0, .int .i64 z0, .int .u32 r0, .int .u32 f0, .int .u32 0, .int .u64 0, .int .i64 0, .int .u32 0, .int .u32 0, .int .u32 0] by rw [hv115]; exact M.out.set_ 3 (.int .u32 f0))
          replace R := Lib.hid (show Blk v115 gR 37 #[.bool false, .bool false] by rw [hv115]; exact R.out.far (p := ⟨gM, 3, none⟩) (Nat.ne_of_gt lt_M_R.out) (.int .u32 f0))
          replace Pg := Lib.hid (show Blk v115 gPg 26 #[.int .i64 kd, .int .i64 ct, .int .u32 pg, .int .u32 lk, .int .u64 ty, .string bd] by rw [hv115]; exact Pg.out.far (p := ⟨gM, 3, none⟩) (Nat.ne_of_gt lt_M_Pg.out) (.int .u32 f0))
          replace Mm := Lib.hid (show Blk v115 gMm 31 #[.int .u64 t0, .int .i64 z0, .int .u32 r0, .int .u32 f0, .int .u32 p0] by rw [hv115]; exact Mm.out.far (p := ⟨gM, 3, none⟩) (Nat.ne_of_gt lt_M_Mm.out) (.int .u32 f0))
          replace HB := Lib.hid (show Below w.heap.size w v115 by rw [hv115]; exact HB.out.setCell (p := ⟨gM, 3, none⟩) ge_M.out (.int .u32 f0))
          have szv115 : v115.heap.size = v114.heap.size := by rw [hv115]; simp [World.setCell]
          obtain ⟨v116, hv116⟩ : ∃ x, x = v115.setCell ⟨gM, 4, none⟩ (.int .u32 p0) := ⟨_, rfl⟩
          replace Ra := Lib.hid (show Blk v116 w.heap.size 36 #[.int .u64 0, .int .i64 0, .int .u32 0, .int .u32 0, .int .u32 0, .int .u64 0, .int .i64 0, .int .u32 0, .int .u32 0, .int .u32 0] by rw [hv116]; exact Ra.out.far (p := ⟨gM, 4, none⟩) (Nat.ne_of_lt lt_Ra_M.out) (.int .u32 p0))
          replace Rb := Lib.hid (show Blk v116 gRb 37 #[.bool false, .bool false] by rw [hv116]; exact Rb.out.far (p := ⟨gM, 4, none⟩) (Nat.ne_of_lt lt_Rb_M.out) (.int .u32 p0))
          replace M := Lib.hid (show Blk v116 gM 36 #[.int .u64 t0, .int .i64 z0, .int .u32 r0, .int .u32 f0, .int .u32 p0, .int .u64 0, .int .i64 0, .int .u32 0, .int .u32 0, .int .u32 0] by rw [hv116]; exact M.out.set_ 4 (.int .u32 p0))
          replace R := Lib.hid (show Blk v116 gR 37 #[.bool false, .bool false] by rw [hv116]; exact R.out.far (p := ⟨gM, 4, none⟩) (Nat.ne_of_gt lt_M_R.out) (.int .u32 p0))
          replace Pg := Lib.hid (show Blk v116 gPg 26 #[.int .i64 kd, .int .i64 ct, .int .u32 pg, .int .u32 lk, .int .u64 ty, .string bd] by rw [hv116]; exact Pg.out.far (p := ⟨gM, 4, none⟩) (Nat.ne_of_gt lt_M_Pg.out) (.int .u32 p0))
          replace Mm := Lib.hid (show Blk v116 gMm 31 #[.int .u64 t0, .int .i64 z0, .int .u32 r0, .int .u32 f0, .int .u32 p0] by rw [hv116]; exact Mm.out.far (p := ⟨gM, 4, none⟩) (Nat.ne_of_gt lt_M_Mm.out) (.int .u32 p0))
          replace HB := Lib.hid (show Below w.heap.size w v116 by rw [hv116]; exact HB.out.setCell (p := ⟨gM, 4, none⟩) ge_M.out (.int .u32 p0))
          have szv116 : v116.heap.size = v115.heap.size := by rw [hv116]; simp [World.setCell]
          obtain ⟨w111, hw111⟩ : ∃ x, x = v116.setCell ⟨gR, 0, none⟩ (.bool true) := ⟨_, rfl⟩
          have fx5 := R.out.frozen 0
          have ex5 := R.out.cell 0
          rw [hv116, hv115, hv114, hv113, hv112] at fx5 ex5
          simp at ex5
          replace Ra := Lib.hid (show Blk w111 w.heap.size 36 #[.int .u64 0, .int .i64 0, .int .u32 0, .int .u32 0, .int .u32 0, .int .u64 0, .int .i64 0, .int .u32 0, .int .u32 0, .int .u32 0] by rw [hw111]; exact Ra.out.far (p := ⟨gR, 0, none⟩) (Nat.ne_of_lt lt_Ra_R.out) (.bool true))
          replace Rb := Lib.hid (show Blk w111 gRb 37 #[.bool false, .bool false] by rw [hw111]; exact Rb.out.far (p := ⟨gR, 0, none⟩) (Nat.ne_of_lt lt_Rb_R.out) (.bool true))
          replace M := Lib.hid (show Blk w111 gM 36 #[.int .u64 t0, .int .i64 z0, .int .u32 r0, .int .u32 f0, .int .u32 p0, .int .u64 0, .int .i64 0, .int .u32 0, .int .u32 0, .int .u32 0] by rw [hw111]; exact M.out.far (p := ⟨gR, 0, none⟩) (Nat.ne_of_lt lt_M_R.out) (.bool true))
          replace R := Lib.hid (show Blk w111 gR 37 #[.bool true, .bool false] by rw [hw111]; exact R.out.set_ 0 (.bool true))
          replace Pg := Lib.hid (show Blk w111 gPg 26 #[.int .i64 kd, .int .i64 ct, .int .u32 pg, .int .u32 lk, .int .u64 ty, .string bd] by rw [hw111]; exact Pg.out.far (p := ⟨gR, 0, none⟩) (Nat.ne_of_gt lt_R_Pg.out) (.bool true))
          replace Mm := Lib.hid (show Blk w111 gMm 31 #[.int .u64 t0, .int .i64 z0, .int .u32 r0, .int .u32 f0, .int .u32 p0] by rw [hw111]; exact Mm.out.far (p := ⟨gR, 0, none⟩) (Nat.ne_of_gt lt_R_Mm.out) (.bool true))
          replace HB := Lib.hid (show Below w.heap.size w w111 by rw [hw111]; exact HB.out.setCell (p := ⟨gR, 0, none⟩) ge_R.out (.bool true))
          have szw111 : w111.heap.size = v116.heap.size := by rw [hw111]; simp [World.setCell]
          clear szv112 szv113 szv114 szv115 szv116 szw111
          have cMm_0 := Mm.out.cell 0
          have cMm_1 := Mm.out.cell 1
          have cMm_2 := Mm.out.cell 2
          have cMm_3 := Mm.out.cell 3
          have cMm_4 := Mm.out.cell 4
          rw [hw111, hv116, hv115, hv114, hv113, hv112] at cMm_0 cMm_1 cMm_2 cMm_3 cMm_4
          simp at cMm_0 cMm_1 cMm_2 cMm_3 cMm_4
          go_wp2_with fail
          rw [← hv112, ← hv113, ← hv114, ← hv115, ← hv116, ← hw111]
          clear hv112 hv113 hv114 hv115 hv116 hw111 fzM_0 fzM_1 fzM_2 fzM_3 fzM_4 fzR_0 lzMm dMm_0 dMm_1 dMm_2 dMm_3 dMm_4 eM_0 eM_1 eM_2 eM_3 eM_4 eR_0 fx5 ex5 cMm_0 cMm_1 cMm_2 cMm_3 cMm_4
          try go_wp2
          go_roundw
          case rel => first | exact ⟨1, by decide, rfl, Ra, Rb, M, R, HB⟩ | ((repeat apply Exists.intro); exact ⟨⟨1, by decide, rfl, Ra, Rb, M, R, HB⟩, rfl⟩)
          case measure => simp [intOf]
        · skip
          obtain ⟨rfl, rfl, rfl, rfl, rfl⟩ := G0.out hb0
          subst hb0
          go_wp2_with fail
          refine (HR _).mono ?_
          rintro e w117 ⟨rfl, hb⟩
          replace HB := Lib.hid (HB.out.trans (hb.mono HB.out.size))
          replace Ra := Lib.hid (Ra.out.below hb Ra.out.lt)
          replace Rb := Lib.hid (Rb.out.below hb Rb.out.lt)
          replace M := Lib.hid (M.out.below hb M.out.lt)
          replace R := Lib.hid (R.out.below hb R.out.lt)
          clear hb
          clear HR
          obtain ⟨w118, hw118⟩ : ∃ x, x = w117.alloc (.cells #[.int .i64 kd, .int .i64 ct, .int .u32 pg, .int .u32 lk, .int .u64 ty, .string bd] 26) := ⟨_, rfl⟩
          have saw118 : w117.heap.size = w117.heap.size := by first | rfl | omega
          have lt_Ra_Pg := Lib.hid (show w.heap.size < w117.heap.size from saw118 ▸ Ra.out.lt)
          replace Ra := Lib.hid (show Blk w118 w.heap.size 36 #[.int .u64 0, .int .i64 0, .int .u32 0, .int .u32 0, .int .u32 0, .int .u64 0, .int .i64 0, .int .u32 0, .int .u32 0, .int .u32 0] by rw [hw118]; exact Ra.out.alloc _)
          have lt_Rb_Pg := Lib.hid (show gRb < w117.heap.size from saw118 ▸ Rb.out.lt)
          replace Rb := Lib.hid (show Blk w118 gRb 37 #[.bool false, .bool false] by rw [hw118]; exact Rb.out.alloc _)
          have lt_M_Pg := Lib.hid (show gM < w117.heap.size from saw118 ▸ M.out.lt)
          replace M := Lib.hid (show Blk w118 gM 36 #[.int .u64 0, .int .i64 0, .int .u32 0, .int .u32 0, .int .u32 0, .int .u64 0, .int .i64 0, .int .u32 0, .int .u32 0, .int .u32 0] by rw [hw118]; exact M.out.alloc _)
          have lt_R_Pg := Lib.hid (show gR < w117.heap.size from saw118 ▸ R.out.lt)
          replace R := Lib.hid (show Blk w118 gR 37 #[.bool false, .bool false] by rw [hw118]; exact R.out.alloc _)
          have ge_Pg := Lib.hid (show w.heap.size ≤ w117.heap.size from saw118 ▸ HB.out.size)
          replace HB := Lib.hid (show Below w.heap.size w w118 by rw [hw118]; exact HB.out.alloc HB.out.size _)
          have Pg := Lib.hid (show Blk w118 w117.heap.size 26 #[.int .i64 kd, .int .i64 ct, .int .u32 pg, .int .u32 lk, .int .u64 ty, .string bd] by rw [hw118, ← saw118]; exact Blk.new _ _ _)
          have szw118 : w118.heap.size = w117.heap.size + 1 := by rw [hw118]; simp
          clear saw118 szw118
          have cPg_0 := Pg.out.cell 0
          have cPg_1 := Pg.out.cell 1
          have cPg_2 := Pg.out.cell 2
          have cPg_3 := Pg.out.cell 3
          have cPg_4 := Pg.out.cell 4
          have cPg_5 := Pg.out.cell 5
          rw [hw118] at cPg_0 cPg_1 cPg_2 cPg_3 cPg_4 cPg_5
          simp at cPg_0 cPg_1 cPg_2 cPg_3 cPg_4 cPg_5
          go_wp2_with fail
          rw [← hw118]
          clear hw118 cPg_0 cPg_1 cPg_2 cPg_3 cPg_4 cPg_5
          generalize w117.heap.size = gPg at *
          refine (HO _).mono ?_
          rintro e w119 ⟨rfl, hb⟩
          replace HB := Lib.hid (HB.out.trans (hb.mono HB.out.size))
          replace Ra := Lib.hid (Ra.out.below hb Ra.out.lt)
          replace Rb := Lib.hid (Rb.out.below hb Rb.out.lt)
          replace M := Lib.hid (M.out.below hb M.out.lt)
          replace R := Lib.hid (R.out.below hb R.out.lt)
          replace Pg := Lib.hid (Pg.out.below hb Pg.out.lt)
          clear hb
          clear HO
          obtain ⟨w120, hw120⟩ : ∃ x, x = w119.alloc (.cells #[.int .u64 0, .int .i64 0, .int .u32 0, .int .u32 0, .int .u32 0] 31) := ⟨_, rfl⟩
          have saw120 : w119.heap.size = w119.heap.size := by first | rfl | omega
          have lt_Ra_Mm := Lib.hid (show w.heap.size < w119.heap.size from saw120 ▸ Ra.out.lt)
          replace Ra := Lib.hid (show Blk w120 w.heap.size 36 #[.int .u64 0, .int .i64 0, .int .u32 0, .int .u32 0, .int .u32 0, .int .u64 0, .int .i64 0, .int .u32 0, .int .u32 0, .int .u32 0] by rw [hw120]; exact Ra.out.alloc _)
          have lt_Rb_Mm := Lib.hid (show gRb < w119.heap.size from saw120 ▸ Rb.out.lt)
          replace Rb := Lib.hid (show Blk w120 gRb 37 #[.bool false, .bool false] by rw [hw120]; exact Rb.out.alloc _)
          have lt_M_Mm := Lib.hid (show gM < w119.heap.size from saw120 ▸ M.out.lt)
          replace M := Lib.hid (show Blk w120 gM 36 #[.int .u64 0, .int .i64 0, .int .u32 0, .int .u32 0, .int .u32 0, .int .u64 0, .int .i64 0, .int .u32 0, .int .u32 0, .int .u32 0] by rw [hw120]; exact M.out.alloc _)
          have lt_R_Mm := Lib.hid (show gR < w119.heap.size from saw120 ▸ R.out.lt)
          replace R := Lib.hid (show Blk w120 gR 37 #[.bool false, .bool false] by rw [hw120]; exact R.out.alloc _)
          have lt_Pg_Mm := Lib.hid (show gPg < w119.heap.size from saw120 ▸ Pg.out.lt)
          replace Pg := Lib.hid (show Blk w120 gPg 26 #[.int .i64 kd, .int .i64 ct, .int .u32 pg, .int .u32 lk, .int .u64 ty, .string bd] by rw [hw120]; exact Pg.out.alloc _)
          have ge_Mm := Lib.hid (show w.heap.size ≤ w119.heap.size from saw120 ▸ HB.out.size)
          replace HB := Lib.hid (show Below w.heap.size w w120 by rw [hw120]; exact HB.out.alloc HB.out.size _)
          have Mm := Lib.hid (show Blk w120 w119.heap.size 31 #[.int .u64 0, .int .i64 0, .int .u32 0, .int .u32 0, .int .u32 0] by rw [hw120, ← saw120]; exact Blk.new _ _ _)
          have szw120 : w120.heap.size = w119.heap.size + 1 := by rw [hw120]; simp
          clear saw120 szw120
          go_wp2_with fail
          rw [← hw120]
          clear hw120
          generalize w119.heap.size = gMm at *
          try go_wp2
          go_roundw
          case rel => first | exact ⟨1, by decide, rfl, Ra, Rb, M, R, HB⟩ | ((repeat apply Exists.intro); exact ⟨⟨1, by decide, rfl, Ra, Rb, M, R, HB⟩, rfl⟩)
          case measure => simp [intOf]
    · skip
      replace M := Lib.hid (show Blk wr gM 36 #[.int .u64 t0, .int .i64 z0, .int .u32 r0, .int .u32 f0, .int .u32 p0, .int .u64 0, .int .i64 0, .int .u32 0, .int .u32 0, .int .u32 0] from M.out)
      replace R := Lib.hid (show Blk wr gR 37 #[.bool b0, .bool false] from R.out)
      rcases V1.out with ⟨hb0, err, herr, HR⟩ | ⟨kd, ct, pg, lk, ty, bd, x, hxx, HR, HO⟩
      · skip
        obtain ⟨rfl, rfl, rfl, rfl, rfl⟩ := G1.out hb0
        subst hb0
        have he : (err != 0) = true := by simpa using herr
        have he2 : (err == 0) = false := by simpa using herr
        clear herr
        go_wp2_with fail
        refine (HR _).mono ?_
        rintro e w121 ⟨rfl, hb⟩
        replace HB := Lib.hid (HB.out.trans (hb.mono HB.out.size))
        replace Ra := Lib.hid (Ra.out.below hb Ra.out.lt)
        replace Rb := Lib.hid (Rb.out.below hb Rb.out.lt)
        replace M := Lib.hid (M.out.below hb M.out.lt)
        replace R := Lib.hid (R.out.below hb R.out.lt)
        clear hb
        clear HR
        obtain ⟨w122, hw122⟩ : ∃ x, x = w121.alloc (.cells #[.int .i64 0, .int .i64 0, .int .u32 0, .int .u32 0, .int .u64 0, .string ByteArray.empty] 26) := ⟨_, rfl⟩
        have saw122 : w121.heap.size = w121.heap.size := by first | rfl | omega
        have lt_Ra_Pg := Lib.hid (show w.heap.size < w121.heap.size from saw122 ▸ Ra.out.lt)
        replace Ra := Lib.hid (show Blk w122 w.heap.size 36 #[.int .u64 0, .int .i64 0, .int .u32 0, .int .u32 0, .int .u32 0, .int .u64 0, .int .i64 0, .int .u32 0, .int .u32 0, .int .u32 0] by rw [hw122]; exact Ra.out.alloc _)
        have lt_Rb_Pg := Lib.hid (show gRb < w121.heap.size from saw122 ▸ Rb.out.lt)
        replace Rb := Lib.hid (show Blk w122 gRb 37 #[.bool false, .bool false] by rw [hw122]; exact Rb.out.alloc _)
        have lt_M_Pg := Lib.hid (show gM < w121.heap.size from saw122 ▸ M.out.lt)
        replace M := Lib.hid (show Blk w122 gM 36 #[.int .u64 t0, .int .i64 z0, .int .u32 r0, .int .u32 f0, .int .u32 p0, .int .u64 0, .int .i64 0, .int .u32 0, .int .u32 0, .int .u32 0] by rw [hw122]; exact M.out.alloc _)
        have lt_R_Pg := Lib.hid (show gR < w121.heap.size from saw122 ▸ R.out.lt)
        replace R := Lib.hid (show Blk w122 gR 37 #[.bool b0, .bool false] by rw [hw122]; exact R.out.alloc _)
        have ge_Pg := Lib.hid (show w.heap.size ≤ w121.heap.size from saw122 ▸ HB.out.size)
        replace HB := Lib.hid (show Below w.heap.size w w122 by rw [hw122]; exact HB.out.alloc HB.out.size _)
        have Pg := Lib.hid (show Blk w122 w121.heap.size 26 #[.int .i64 0, .int .i64 0, .int .u32 0, .int .u32 0, .int .u64 0, .string ByteArray.empty] by rw [hw122, ← saw122]; exact Blk.new _ _ _)
        have szw122 : w122.heap.size = w121.heap.size + 1 := by rw [hw122]; simp
        clear saw122 szw122
        go_wp2_with fail
        rw [← hw122]
        clear hw122
        generalize w121.heap.size = gPg at *
        try go_wp2
        go_roundw
        case rel => first | exact ⟨2, by decide, rfl, Ra, Rb, M, R, HB⟩ | ((repeat apply Exists.intro); exact ⟨⟨2, by decide, rfl, Ra, Rb, M, R, HB⟩, rfl⟩)
        case measure => simp [intOf]
      · rcases hxx with ⟨rfl, hb0⟩ | ⟨rfl, hb0⟩
        · skip
          subst hb0
          go_wp2_with fail
          refine (HR _).mono ?_
          rintro e w123 ⟨rfl, hb⟩
          replace HB := Lib.hid (HB.out.trans (hb.mono HB.out.size))
          replace Ra := Lib.hid (Ra.out.below hb Ra.out.lt)
          replace Rb := Lib.hid (Rb.out.below hb Rb.out.lt)
          replace M := Lib.hid (M.out.below hb M.out.lt)
          replace R := Lib.hid (R.out.below hb R.out.lt)
          clear hb
          clear HR
          obtain ⟨w124, hw124⟩ : ∃ x, x = w123.alloc (.cells #[.int .i64 kd, .int .i64 ct, .int .u32 pg, .int .u32 lk, .int .u64 ty, .string bd] 26) := ⟨_, rfl⟩
          have saw124 : w123.heap.size = w123.heap.size := by first | rfl | omega
          have lt_Ra_Pg := Lib.hid (show w.heap.size < w123.heap.size from saw124 ▸ Ra.out.lt)
          replace Ra := Lib.hid (show Blk w124 w.heap.size 36 #[.int .u64 0, .int .i64 0, .int .u32 0, .int .u32 0, .int .u32 0, .int .u64 0, .int .i64 0, .int .u32 0, .int .u32 0, .int .u32 0] by rw [hw124]; exact Ra.out.alloc _)
          have lt_Rb_Pg := Lib.hid (show gRb < w123.heap.size from saw124 ▸ Rb.out.lt)
          replace Rb := Lib.hid (show Blk w124 gRb 37 #[.bool false, .bool false] by rw [hw124]; exact Rb.out.alloc _)
          have lt_M_Pg := Lib.hid (show gM < w123.heap.size from saw124 ▸ M.out.lt)
          replace M := Lib.hid (show Blk w124 gM 36 #[.int .u64 t0, .int .i64 z0, .int .u32 r0, .int .u32 f0, .int .u32 p0, .int .u64 0, .int .i64 0, .int .u32 0, .int .u32 0, .int .u32 0] by rw [hw124]; exact M.out.alloc _)
          have lt_R_Pg := Lib.hid (show gR < w123.heap.size from saw124 ▸ R.out.lt)
          replace R := Lib.hid (show Blk w124 gR 37 #[.bool b0, .bool false] by rw [hw124]; exact R.out.alloc _)
          have ge_Pg := Lib.hid (show w.heap.size ≤ w123.heap.size from saw124 ▸ HB.out.size)
          replace HB := Lib.hid (show Below w.heap.size w w124 by rw [hw124]; exact HB.out.alloc HB.out.size _)
          have Pg := Lib.hid (show Blk w124 w123.heap.size 26 #[.int .i64 kd, .int .i64 ct, .int .u32 pg, .int .u32 lk, .int .u64 ty, .string bd] by rw [hw124, ← saw124]; exact Blk.new _ _ _)
          have szw124 : w124.heap.size = w123.heap.size + 1 := by rw [hw124]; simp
          clear saw124 szw124
          have cPg_0 := Pg.out.cell 0
          have cPg_1 := Pg.out.cell 1
          have cPg_2 := Pg.out.cell 2
          have cPg_3 := Pg.out.cell 3
          have cPg_4 := Pg.out.cell 4
          have cPg_5 := Pg.out.cell 5
          rw [hw124] at cPg_0 cPg_1 cPg_2 cPg_3 cPg_4 cPg_5
          simp at cPg_0 cPg_1 cPg_2 cPg_3 cPg_4 cPg_5
          go_wp2_with fail
          rw [← hw124]
          clear hw124 cPg_0 cPg_1 cPg_2 cPg_3 cPg_4 cPg_5
          generalize w123.heap.size = gPg at *
          refine (HO _).mono ?_
          rintro e w125 ⟨rfl, hb⟩
          replace HB := Lib.hid (HB.out.trans (hb.mono HB.out.size))
          replace Ra := Lib.hid (Ra.out.below hb Ra.out.lt)
          replace Rb := Lib.hid (Rb.out.below hb Rb.out.lt)
          replace M := Lib.hid (M.out.below hb M.out.lt)
          replace R := Lib.hid (R.out.below hb R.out.lt)
          replace Pg := Lib.hid (Pg.out.below hb Pg.out.lt)
          clear hb
          clear HO
          obtain ⟨w126, hw126⟩ : ∃ x, x = w125.alloc (.cells #[.int .u64 t1, .int .i64 z1, .int .u32 r1, .int .u32 f1, .int .u32 p1] 31) := ⟨_, rfl⟩
          have saw126 : w125.heap.size = w125.heap.size := by first | rfl | omega
          have lt_Ra_Mm := Lib.hid (show w.heap.size < w125.heap.size from saw126 ▸ Ra.out.lt)
          replace Ra := Lib.hid (show Blk w126 w.heap.size 36 #[.int .u64 0, .int .i64 0, .int .u32 0, .int .u32 0, .int .u32 0, .int .u64 0, .int .i64 0, .int .u32 0, .int .u32 0, .int .u32 0] by rw [hw126]; exact Ra.out.alloc _)
          have lt_Rb_Mm := Lib.hid (show gRb < w125.heap.size from saw126 ▸ Rb.out.lt)
          replace Rb := Lib.hid (show Blk w126 gRb 37 #[.bool false, .bool false] by rw [hw126]; exact Rb.out.alloc _)
          have lt_M_Mm := Lib.hid (show gM < w125.heap.size from saw126 ▸ M.out.lt)
          replace M := Lib.hid (show Blk w126 gM 36 #[.int .u64 t0, .int .i64 z0, .int .u32 r0, .int .u32 f0, .int .u32 p0, .int .u64 0, .int .i64 0, .int .u32 0, .int .u32 0, .int .u32 0] by rw [hw126]; exact M.out.alloc _)
          have lt_R_Mm := Lib.hid (show gR < w125.heap.size from saw126 ▸ R.out.lt)
          replace R := Lib.hid (show Blk w126 gR 37 #[.bool b0, .bool false] by rw [hw126]; exact R.out.alloc _)
          have lt_Pg_Mm := Lib.hid (show gPg < w125.heap.size from saw126 ▸ Pg.out.lt)
          replace Pg := Lib.hid (show Blk w126 gPg 26 #[.int .i64 kd, .int .i64 ct, .int .u32 pg, .int .u32 lk, .int .u64 ty, .string bd] by rw [hw126]; exact Pg.out.alloc _)
          have ge_Mm := Lib.hid (show w.heap.size ≤ w125.heap.size from saw126 ▸ HB.out.size)
          replace HB := Lib.hid (show Below w.heap.size w w126 by rw [hw126]; exact HB.out.alloc HB.out.size _)
          have Mm := Lib.hid (show Blk w126 w125.heap.size 31 #[.int .u64 t1, .int .i64 z1, .int .u32 r1, .int .u32 f1, .int .u32 p1] by rw [hw126, ← saw126]; exact Blk.new _ _ _)
          have szw126 : w126.heap.size = w125.heap.size + 1 := by rw [hw126]; simp
          clear saw126 szw126
          go_upto_region 10 with fail
          rw [← hw126]
          clear hw126
          generalize w125.heap.size = gMm at *
          have fzM_5 := M.out.frozen 5
          have fzM_6 := M.out.frozen 6
          have fzM_7 := M.out.frozen 7
          have fzM_8 := M.out.frozen 8
          have fzM_9 := M.out.frozen 9
          have fzR_1 := R.out.frozen 1
          have lzMm := Mm.out.lt
          have dMm_0 := Mm.out.cell 0
          have dMm_1 := Mm.out.cell 1
          have dMm_2 := Mm.out.cell 2
          have dMm_3 := Mm.out.cell 3
          have dMm_4 := Mm.out.cell 4
          simp at dMm_0 dMm_1 dMm_2 dMm_3 dMm_4
          have eM_5 := M.out.cell 5
          have eM_6 := M.out.cell 6
          have eM_7 := M.out.cell 7
          have eM_8 := M.out.cell 8
          have eM_9 := M.out.cell 9
          have eR_1 := R.out.cell 1
          simp at eM_5 eM_6 eM_7 eM_8 eM_9 eR_1
          obtain ⟨v128, hv128⟩ : ∃ x, x = w126.setCell ⟨gM, 5, none⟩ (.int .u64 t1) := ⟨_, rfl⟩
          replace Ra := Lib.hid (show Blk v128 w.heap.size 36 #[.int .u64 0, .int .i64 0, .int .u32 0, .int .u32 0, .int .u32 0, .int .u64 0, .int .i64 0, .int .u32 0, .int .u32 0, .int .u32 0] by rw [hv128]; exact Ra.out.far (p := ⟨gM, 5, none⟩) (Nat.ne_of_lt lt_Ra_M.out) (.int .u64 t1))
          replace Rb := Lib.hid (show Blk v128 gRb 37 #[.bool false, .bool false] by rw [hv128]; exact Rb.out.far (p := ⟨gM, 5, none⟩) (Nat.ne_of_lt lt_Rb_M.out) (.int .u64 t1))
          replace M := Lib.hid (show Blk v128 gM 36 #[.int .u64 t0, .int .i64 z0, .int .u32 r0, .int .u32 f0, .int .u32 p0, .int .u64 t1, .int .i64 0, .int .u32 0, .int .u32 0, .int .u32 0] by rw [hv128]; exact M.out.set_ 5 (.int .u64 t1))
          replace R := Lib.hid (show Blk v128 gR 37 #[.bool b0, .bool false] by rw [hv128]; exact R.out.far (p := ⟨gM, 5, none⟩) (Nat.ne_of_gt lt_M_R.out) (.int .u64 t1))
          replace Pg := Lib.hid (show Blk v128 gPg 26 #[.int .i64 kd, .int .i64 ct, .int .u32 pg, .int .u32 lk, .int .u64 ty, .string bd] by rw [hv128]; exact Pg.out.far (p := ⟨gM, 5, none⟩) (Nat.ne_of_gt lt_M_Pg.out) (.int .u64 t1))
          replace Mm := Lib.hid (show Blk v128 gMm 31 #[.int .u64 t1, .int .i64 z1, .int .u32 r1, .int .u32 f1, .int .u32 p1] by rw [hv128]; exact Mm.out.far (p := ⟨gM, 5, none⟩) (Nat.ne_of_gt lt_M_Mm.out) (.int .u64 t1))
          replace HB := Lib.hid (show Below w.heap.size w v128 by rw [hv128]; exact HB.out.setCell (p := ⟨gM, 5, none⟩) ge_M.out (.int .u64 t1))
          have szv128 : v128.heap.size = w126.heap.size := by rw [hv128]; simp [World.setCell]
          obtain ⟨v129, hv129⟩ : ∃ x, x = v128.setCell ⟨gM, 6, none⟩ (.int .i64 z1) := ⟨_, rfl⟩
          replace Ra := Lib.hid (show Blk v129 w.heap.size 36 #[.int .u64 0, .int .i64 0, .int .u32 0, .int .u32 0, .int .u32 0, .int .u64 0, .int .i64 0, .int .u32 0, .int .u32 0, .int .u32 0] by rw [hv129]; exact Ra.out.far (p := ⟨gM, 6, none⟩) (Nat.ne_of_lt lt_Ra_M.out) (.int .i64 z1))
          replace Rb := Lib.hid (show Blk v129 gRb 37 #[.bool false, .bool false] by rw [hv129]; exact Rb.out.far (p := ⟨gM, 6, none⟩) (Nat.ne_of_lt lt_Rb_M.out) (.int .i64 z1))
          replace M := Lib.hid (show Blk v129 gM 36 #[.int .u64 t0, .int .i64 z0, .int .u32 r0, .int .u32 f0, .int .u32 p0, .int .u64 t1, .int .i64 z1, .int .u32 0, .int .u32 0, .int .u32 0] by rw [hv129]; exact M.out.set_ 6 (.int .i64 z1))
          replace R := Lib.hid (show Blk v129 gR 37 #[.bool b0, .bool false] by rw [hv129]; exact R.out.far (p := ⟨gM, 6, none⟩) (Nat.ne_of_gt lt_M_R.out) (.int .i64 z1))
          replace Pg := Lib.hid (show Blk v129 gPg 26 #[.int .i64 kd, .int .i64 ct, .int .u32 pg, .int .u32 lk, .int .u64 ty, .string bd] by rw [hv129]; exact Pg.out.far (p := ⟨gM, 6, none⟩) (Nat.ne_of_gt lt_M_Pg.out) (.int .i64 z1))
          replace Mm := Lib.hid (show Blk v129 gMm 31 #[.int .u64 t1, .int .i64 z1, .int .u32 r1, .int .u32 f1, .int .u32 p1] by rw [hv129]; exact Mm.out.far (p := ⟨gM, 6, none⟩) (Nat.ne_of_gt lt_M_Mm.out) (.int .i64 z1))
          replace HB := Lib.hid (show Below w.heap.size w v129 by rw [hv129]; exact HB.out.setCell (p := ⟨gM, 6, none⟩) ge_M.out (.int .i64 z1))
          have szv129 : v129.heap.size = v128.heap.size := by rw [hv129]; simp [World.setCell]
          obtain ⟨v130, hv130⟩ : ∃ x, x = v129.setCell ⟨gM, 7, none⟩ (.int .u32 r1) := ⟨_, rfl⟩
          replace Ra := Lib.hid (show Blk v130 w.heap.size 36 #[.int .u64 0, .int .i64 0, .int .u32 0, .int .u32 0, .int .u32 0, .int .u64 0, .int .i64 0, .int .u32 0, .int .u32 0, .int .u32 0] by rw [hv130]; exact Ra.out.far (p := ⟨gM, 7, none⟩) (Nat.ne_of_lt lt_Ra_M.out) (.int .u32 r1))
          replace Rb := Lib.hid (show Blk v130 gRb 37 #[.bool false, .bool false] by rw [hv130]; exact Rb.out.far (p := ⟨gM, 7, none⟩) (Nat.ne_of_lt lt_Rb_M.out) (.int .u32 r1))
          replace M := Lib.hid (show Blk v130 gM 36 #[.int .u64 t0, .int .i64 z0, .int .u32 r0, .int .u32 f0, .int .u32 p0, .int .u64 t1, .int .i64 z1, .int .u32 r1, .int .u32 0, .int .u32 0] by rw [hv130]; exact M.out.set_ 7 (.int .u32 r1))
          replace R := Lib.hid (show Blk v130 gR 37 #[.bool b0, .bool false] by rw [hv130]; exact R.out.far (p := ⟨gM, 7, none⟩) (Nat.ne_of_gt lt_M_R.out) (.int .u32 r1))
          replace Pg := Lib.hid (show Blk v130 gPg 26 #[.int .i64 kd, .int .i64 ct, .int .u32 pg, .int .u32 lk, .int .u64 ty, .string bd] by rw [hv130]; exact Pg.out.far (p := ⟨gM, 7, none⟩) (Nat.ne_of_gt lt_M_Pg.out) (.int .u32 r1))
          replace Mm := Lib.hid (show Blk v130 gMm 31 #[.int .u64 t1, .int .i64 z1, .int .u32 r1, .int .u32 f1, .int .u32 p1] by rw [hv130]; exact Mm.out.far (p := ⟨gM, 7, none⟩) (Nat.ne_of_gt lt_M_Mm.out) (.int .u32 r1))
          replace HB := Lib.hid (show Below w.heap.size w v130 by rw [hv130]; exact HB.out.setCell (p := ⟨gM, 7, none⟩) ge_M.out (.int .u32 r1))
          have szv130 : v130.heap.size = v129.heap.size := by rw [hv130]; simp [World.setCell]
          obtain ⟨v131, hv131⟩ : ∃ x, x = v130.setCell ⟨gM, 8, none⟩ (.int .u32 f1) := ⟨_, rfl⟩
          replace Ra := Lib.hid (show Blk v131 w.heap.size 36 #[.int .u64 0, .int .i64 0, .int .u32 0, .int .u32 0, .int .u32 0, .int .u64 0, .int .i64 0, .int .u32 0, .int .u32 0, .int .u32 0] by rw [hv131]; exact Ra.out.far (p := ⟨gM, 8, none⟩) (Nat.ne_of_lt lt_Ra_M.out) (.int .u32 f1))
          replace Rb := Lib.hid (show Blk v131 gRb 37 #[.bool false, .bool false] by rw [hv131]; exact Rb.out.far (p := ⟨gM, 8, none⟩) (Nat.ne_of_lt lt_Rb_M.out) (.int .u32 f1))
          replace M := Lib.hid (show Blk v131 gM 36 #[.int .u64 t0, .int .i64 z0, .int .u32 r0, .int .u32 f0, .int .u32 p0, .int .u64 t1, .int .i64 z1, .int .u32 r1, .int .u32 f1, .int .u32 0] by rw [hv131]; exact M.out.set_ 8 (.int .u32 f1))
          replace R := Lib.hid (show Blk v131 gR 37 #[.bool b0, .bool false] by rw [hv131]; exact R.out.far (p := ⟨gM, 8, none⟩) (Nat.ne_of_gt lt_M_R.out) (.int .u32 f1))
          replace Pg := Lib.hid (show Blk v131 gPg 26 #[.int .i64 kd, .int .i64 ct, .int .u32 pg, .int .u32 lk, .int .u64 ty, .string bd] by rw [hv131]; exact Pg.out.far (p := ⟨gM, 8, none⟩) (Nat.ne_of_gt lt_M_Pg.out) (.int .u32 f1))
          replace Mm := Lib.hid (show Blk v131 gMm 31 #[.int .u64 t1, .int .i64 z1, .int .u32 r1, .int .u32 f1, .int .u32 p1] by rw [hv131]; exact Mm.out.far (p := ⟨gM, 8, none⟩) (Nat.ne_of_gt lt_M_Mm.out) (.int .u32 f1))
          replace HB := Lib.hid (show Below w.heap.size w v131 by rw [hv131]; exact HB.out.setCell (p := ⟨gM, 8, none⟩) ge_M.out (.int .u32 f1))
          have szv131 : v131.heap.size = v130.heap.size := by rw [hv131]; simp [World.setCell]
          obtain ⟨v132, hv132⟩ : ∃ x, x = v131.setCell ⟨gM, 9, none⟩ (.int .u32 p1) := ⟨_, rfl⟩
          replace Ra := Lib.hid (show Blk v132 w.heap.size 36 #[.int .u64 0, .int .i64 0, .int .u32 0, .int .u32 0, .int .u32 0, .int .u64 0, .int .i64 0, .int .u32 0, .int .u32 0, .int .u32 0] by rw [hv132]; exact Ra.out.far (p := ⟨gM, 9, none⟩) (Nat.ne_of_lt lt_Ra_M.out) (.int .u32 p1))
          replace Rb := Lib.hid (show Blk v132 gRb 37 #[.bool false, .bool false] by rw [hv132]; exact Rb.out.far (p := ⟨gM, 9, none⟩) (Nat.ne_of_lt lt_Rb_M.out) (.int .u32 p1))
          replace M := Lib.hid (show Blk v132 gM 36 #[.int .u64 t0, .int .i64 z0, .int .u32 r0, .int .u32 f0, .int .u32 p0, .int .u64 t1, .int .i64 z1, .int .u32 r1, .int .u32 f1, .int .u32 p1] by rw [hv132]; exact M.out.set_ 9 (.int .u32 p1))
          replace R := Lib.hid (show Blk v132 gR 37 #[.bool b0, .bool false] by rw [hv132]; exact R.out.far (p := ⟨gM, 9, none⟩) (Nat.ne_of_gt lt_M_R.out) (.int .u32 p1))
          replace Pg := Lib.hid (show Blk v132 gPg 26 #[.int .i64 kd, .int .i64 ct, .int .u32 pg, .int .u32 lk, .int .u64 ty, .string bd] by rw [hv132]; exact Pg.out.far (p := ⟨gM, 9, none⟩) (Nat.ne_of_gt lt_M_Pg.out) (.int .u32 p1))
          replace Mm := Lib.hid (show Blk v132 gMm 31 #[.int .u64 t1, .int .i64 z1, .int .u32 r1, .int .u32 f1, .int .u32 p1] by rw [hv132]; exact Mm.out.far (p := ⟨gM, 9, none⟩) (Nat.ne_of_gt lt_M_Mm.out) (.int .u32 p1))
          replace HB := Lib.hid (show Below w.heap.size w v132 by rw [hv132]; exact HB.out.setCell (p := ⟨gM, 9, none⟩) ge_M.out (.int .u32 p1))
          have szv132 : v132.heap.size = v131.heap.size := by rw [hv132]; simp [World.setCell]
          obtain ⟨w127, hw127⟩ : ∃ x, x = v132.setCell ⟨gR, 1, none⟩ (.bool true) := ⟨_, rfl⟩
          have fx5 := R.out.frozen 1
          have ex5 := R.out.cell 1
          rw [hv132, hv131, hv130, hv129, hv128] at fx5 ex5
          simp at ex5
          replace Ra := Lib.hid (show Blk w127 w.heap.size 36 #[.int .u64 0, .int .i64 0, .int .u32 0, .int .u32 0, .int .u32 0, .int .u64 0, .int .i64 0, .int .u32 0, .int .u32 0, .int .u32 0] by rw [hw127]; exact Ra.out.far (p := ⟨gR, 1, none⟩) (Nat.ne_of_lt lt_Ra_R.out) (.bool true))
          replace Rb := Lib.hid (show Blk w127 gRb 37 #[.bool false, .bool false] by rw [hw127]; exact Rb.out.far (p := ⟨gR, 1, none⟩) (Nat.ne_of_lt lt_Rb_R.out) (.bool true))
          replace M := Lib.hid (show Blk w127 gM 36 #[.int .u64 t0, .int .i64 z0, .int .u32 r0, .int .u32 f0, .int .u32 p0, .int .u64 t1, .int .i64 z1, .int .u32 r1, .int .u32 f1, .int .u32 p1] by rw [hw127]; exact M.out.far (p := ⟨gR, 1, none⟩) (Nat.ne_of_lt lt_M_R.out) (.bool true))
          replace R := Lib.hid (show Blk w127 gR 37 #[.bool b0, .bool true] by rw [hw127]; exact R.out.set_ 1 (.bool true))
          replace Pg := Lib.hid (show Blk w127 gPg 26 #[.int .i64 kd, .int .i64 ct, .int .u32 pg, .int .u32 lk, .int .u64 ty, .string bd] by rw [hw127]; exact Pg.out.far (p := ⟨gR, 1, none⟩) (Nat.ne_of_gt lt_R_Pg.out) (.bool true))
          replace Mm := Lib.hid (show Blk w127 gMm 31 #[.int .u64 t1, .int .i64 z1, .int .u32 r1, .int .u32 f1, .int .u32 p1] by rw [hw127]; exact Mm.out.far (p := ⟨gR, 1, none⟩) (Nat.ne_of_gt lt_R_Mm.out) (.bool true))
          replace HB := Lib.hid (show Below w.heap.size w w127 by rw [hw127]; exact HB.out.setCell (p := ⟨gR, 1, none⟩) ge_R.out (.bool true))
          have szw127 : w127.heap.size = v132.heap.size := by rw [hw127]; simp [World.setCell]
          clear szv128 szv129 szv130 szv131 szv132 szw127
          have cMm_0 := Mm.out.cell 0
          have cMm_1 := Mm.out.cell 1
          have cMm_2 := Mm.out.cell 2
          have cMm_3 := Mm.out.cell 3
          have cMm_4 := Mm.out.cell 4
          rw [hw127, hv132, hv131, hv130, hv129, hv128] at cMm_0 cMm_1 cMm_2 cMm_3 cMm_4
          simp at cMm_0 cMm_1 cMm_2 cMm_3 cMm_4
          go_wp2_with fail
          rw [← hv128, ← hv129, ← hv130, ← hv131, ← hv132, ← hw127]
          clear hv128 hv129 hv130 hv131 hv132 hw127 fzM_5 fzM_6 fzM_7 fzM_8 fzM_9 fzR_1 lzMm dMm_0 dMm_1 dMm_2 dMm_3 dMm_4 eM_5 eM_6 eM_7 eM_8 eM_9 eR_1 fx5 ex5 cMm_0 cMm_1 cMm_2 cMm_3 cMm_4
          try go_wp2
          go_roundw
          case rel => first | exact ⟨2, by decide, rfl, Ra, Rb, M, R, HB⟩ | ((repeat apply Exists.intro); exact ⟨⟨2, by decide, rfl, Ra, Rb, M, R, HB⟩, rfl⟩)
          case measure => simp [intOf]
        · skip
          obtain ⟨rfl, rfl, rfl, rfl, rfl⟩ := G1.out hb0
          subst hb0
          go_wp2_with fail
          refine (HR _).mono ?_
          rintro e w133 ⟨rfl, hb⟩
          replace HB := Lib.hid (HB.out.trans (hb.mono HB.out.size))
          replace Ra := Lib.hid (Ra.out.below hb Ra.out.lt)
          replace Rb := Lib.hid (Rb.out.below hb Rb.out.lt)
          replace M := Lib.hid (M.out.below hb M.out.lt)
          replace R := Lib.hid (R.out.below hb R.out.lt)
          clear hb
          clear HR
          obtain ⟨w134, hw134⟩ : ∃ x, x = w133.alloc (.cells #[.int .i64 kd, .int .i64 ct, .int .u32 pg, .int .u32 lk, .int .u64 ty, .string bd] 26) := ⟨_, rfl⟩
          have saw134 : w133.heap.size = w133.heap.size := by first | rfl | omega
          have lt_Ra_Pg := Lib.hid (show w.heap.size < w133.heap.size from saw134 ▸ Ra.out.lt)
          replace Ra := Lib.hid (show Blk w134 w.heap.size 36 #[.int .u64 0, .int .i64 0, .int .u32 0, .int .u32 0, .int .u32 0, .int .u64 0, .int .i64 0, .int .u32 0, .int .u32 0, .int .u32 0] by rw [hw134]; exact Ra.out.alloc _)
          have lt_Rb_Pg := Lib.hid (show gRb < w133.heap.size from saw134 ▸ Rb.out.lt)
          replace Rb := Lib.hid (show Blk w134 gRb 37 #[.bool false, .bool false] by rw [hw134]; exact Rb.out.alloc _)
          have lt_M_Pg := Lib.hid (show gM < w133.heap.size from saw134 ▸ M.out.lt)
          replace M := Lib.hid (show Blk w134 gM 36 #[.int .u64 t0, .int .i64 z0, .int .u32 r0, .int .u32 f0, .int .u32 p0, .int .u64 0, .int .i64 0, .int .u32 0, .int .u32 0, .int .u32 0] by rw [hw134]; exact M.out.alloc _)
          have lt_R_Pg := Lib.hid (show gR < w133.heap.size from saw134 ▸ R.out.lt)
          replace R := Lib.hid (show Blk w134 gR 37 #[.bool b0, .bool false] by rw [hw134]; exact R.out.alloc _)
          have ge_Pg := Lib.hid (show w.heap.size ≤ w133.heap.size from saw134 ▸ HB.out.size)
          replace HB := Lib.hid (show Below w.heap.size w w134 by rw [hw134]; exact HB.out.alloc HB.out.size _)
          have Pg := Lib.hid (show Blk w134 w133.heap.size 26 #[.int .i64 kd, .int .i64 ct, .int .u32 pg, .int .u32 lk, .int .u64 ty, .string bd] by rw [hw134, ← saw134]; exact Blk.new _ _ _)
          have szw134 : w134.heap.size = w133.heap.size + 1 := by rw [hw134]; simp
          clear saw134 szw134
          have cPg_0 := Pg.out.cell 0
          have cPg_1 := Pg.out.cell 1
          have cPg_2 := Pg.out.cell 2
          have cPg_3 := Pg.out.cell 3
          have cPg_4 := Pg.out.cell 4
          have cPg_5 := Pg.out.cell 5
          rw [hw134] at cPg_0 cPg_1 cPg_2 cPg_3 cPg_4 cPg_5
          simp at cPg_0 cPg_1 cPg_2 cPg_3 cPg_4 cPg_5
          go_wp2_with fail
          rw [← hw134]
          clear hw134 cPg_0 cPg_1 cPg_2 cPg_3 cPg_4 cPg_5
          generalize w133.heap.size = gPg at *
          refine (HO _).mono ?_
          rintro e w135 ⟨rfl, hb⟩
          replace HB := Lib.hid (HB.out.trans (hb.mono HB.out.size))
          replace Ra := Lib.hid (Ra.out.below hb Ra.out.lt)
          replace Rb := Lib.hid (Rb.out.below hb Rb.out.lt)
          replace M := Lib.hid (M.out.below hb M.out.lt)
          replace R := Lib.hid (R.out.below hb R.out.lt)
          replace Pg := Lib.hid (Pg.out.below hb Pg.out.lt)
          clear hb
          clear HO
          obtain ⟨w136, hw136⟩ : ∃ x, x = w135.alloc (.cells #[.int .u64 0, .int .i64 0, .int .u32 0, .int .u32 0, .int .u32 0] 31) := ⟨_, rfl⟩
          have saw136 : w135.heap.size = w135.heap.size := by first | rfl | omega
          have lt_Ra_Mm := Lib.hid (show w.heap.size < w135.heap.size from saw136 ▸ Ra.out.lt)
          replace Ra := Lib.hid (show Blk w136 w.heap.size 36 #[.int .u64 0, .int .i64 0, .int .u32 0, .int .u32 0, .int .u32 0, .int .u64 0, .int .i64 0, .int .u32 0, .int .u32 0, .int .u32 0] by rw [hw136]; exact Ra.out.alloc _)
          have lt_Rb_Mm := Lib.hid (show gRb < w135.heap.size from saw136 ▸ Rb.out.lt)
          replace Rb := Lib.hid (show Blk w136 gRb 37 #[.bool false, .bool false] by rw [hw136]; exact Rb.out.alloc _)
          have lt_M_Mm := Lib.hid (show gM < w135.heap.size from saw136 ▸ M.out.lt)
          replace M := Lib.hid (show Blk w136 gM 36 #[.int .u64 t0, .int .i64 z0, .int .u32 r0, .int .u32 f0, .int .u32 p0, .int .u64 0, .int .i64 0, .int .u32 0, .int .u32 0, .int .u32 0] by rw [hw136]; exact M.out.alloc _)
          have lt_R_Mm := Lib.hid (show gR < w135.heap.size from saw136 ▸ R.out.lt)
          replace R := Lib.hid (show Blk w136 gR 37 #[.bool b0, .bool false] by rw [hw136]; exact R.out.alloc _)
          have lt_Pg_Mm := Lib.hid (show gPg < w135.heap.size from saw136 ▸ Pg.out.lt)
          replace Pg := Lib.hid (show Blk w136 gPg 26 #[.int .i64 kd, .int .i64 ct, .int .u32 pg, .int .u32 lk, .int .u64 ty, .string bd] by rw [hw136]; exact Pg.out.alloc _)
          have ge_Mm := Lib.hid (show w.heap.size ≤ w135.heap.size from saw136 ▸ HB.out.size)
          replace HB := Lib.hid (show Below w.heap.size w w136 by rw [hw136]; exact HB.out.alloc HB.out.size _)
          have Mm := Lib.hid (show Blk w136 w135.heap.size 31 #[.int .u64 0, .int .i64 0, .int .u32 0, .int .u32 0, .int .u32 0] by rw [hw136, ← saw136]; exact Blk.new _ _ _)
          have szw136 : w136.heap.size = w135.heap.size + 1 := by rw [hw136]; simp
          clear saw136 szw136
          go_wp2_with fail
          rw [← hw136]
          clear hw136
          generalize w135.heap.size = gMm at *
          try go_wp2
          go_roundw
          case rel => first | exact ⟨2, by decide, rfl, Ra, Rb, M, R, HB⟩ | ((repeat apply Exists.intro); exact ⟨⟨2, by decide, rfl, Ra, Rb, M, R, HB⟩, rfl⟩)
          case measure => simp [intOf]
    · skip
      replace M := Lib.hid (show Blk wr gM 36 #[.int .u64 t0, .int .i64 z0, .int .u32 r0, .int .u32 f0, .int .u32 p0, .int .u64 t1, .int .i64 z1, .int .u32 r1, .int .u32 f1, .int .u32 p1] from M.out)
      replace R := Lib.hid (show Blk wr gR 37 #[.bool b0, .bool b1] from R.out)
  
      go_wp2_with fail
      have cRa_0 := Ra.out.cell 0
      have cRa_1 := Ra.out.cell 1
      have cRa_2 := Ra.out.cell 2
      have cRa_3 := Ra.out.cell 3
      have cRa_4 := Ra.out.cell 4
      have cRa_5 := Ra.out.cell 5
      have cRa_6 := Ra.out.cell 6
      have cRa_7 := Ra.out.cell 7
      have cRa_8 := Ra.out.cell 8
      have cRa_9 := Ra.out.cell 9
      have cRb_0 := Rb.out.cell 0
      have cRb_1 := Rb.out.cell 1
      have cM_0 := M.out.cell 0
      have cM_1 := M.out.cell 1
      have cM_2 := M.out.cell 2
      have cM_3 := M.out.cell 3
      have cM_4 := M.out.cell 4
      have cM_5 := M.out.cell 5
      have cM_6 := M.out.cell 6
      have cM_7 := M.out.cell 7
      have cM_8 := M.out.cell 8
      have cM_9 := M.out.cell 9
      have cR_0 := R.out.cell 0
      have cR_1 := R.out.cell 1
      simp at cRa_0 cRa_1 cRa_2 cRa_3 cRa_4 cRa_5 cRa_6 cRa_7 cRa_8 cRa_9 cRb_0 cRb_1 cM_0 cM_1 cM_2 cM_3 cM_4 cM_5 cM_6 cM_7 cM_8 cM_9 cR_0 cR_1
      have fRa_0 := Ra.out.frozen 0
      have fRa_1 := Ra.out.frozen 1
      have fRa_2 := Ra.out.frozen 2
      have fRa_3 := Ra.out.frozen 3
      have fRa_4 := Ra.out.frozen 4
      have fRa_5 := Ra.out.frozen 5
      have fRa_6 := Ra.out.frozen 6
      have fRa_7 := Ra.out.frozen 7
      have fRa_8 := Ra.out.frozen 8
      have fRa_9 := Ra.out.frozen 9
      have fRb_0 := Rb.out.frozen 0
      have fRb_1 := Rb.out.frozen 1
      have hn_Ra_Rb : ¬ w.heap.size = gRb := Nat.ne_of_lt lt_Ra_Rb.out
      have hn_Ra_M : ¬ w.heap.size = gM := Nat.ne_of_lt lt_Ra_M.out
      have hn_Ra_R : ¬ w.heap.size = gR := Nat.ne_of_lt lt_Ra_R.out
      have hn_Rb_Ra : ¬ gRb = w.heap.size := Nat.ne_of_gt lt_Ra_Rb.out
      have hn_Rb_M : ¬ gRb = gM := Nat.ne_of_lt lt_Rb_M.out
      have hn_Rb_R : ¬ gRb = gR := Nat.ne_of_lt lt_Rb_R.out
      have hn_M_Ra : ¬ gM = w.heap.size := Nat.ne_of_gt lt_Ra_M.out
      have hn_M_Rb : ¬ gM = gRb := Nat.ne_of_gt lt_Rb_M.out
      have hn_M_R : ¬ gM = gR := Nat.ne_of_lt lt_M_R.out
      have hn_R_Ra : ¬ gR = w.heap.size := Nat.ne_of_gt lt_Ra_R.out
      have hn_R_Rb : ¬ gR = gRb := Nat.ne_of_gt lt_Rb_R.out
      have hn_R_M : ¬ gR = gM := Nat.ne_of_gt lt_M_R.out
      go_region
      go_wp2_with fail
      have AF := both_sa (v0 := .int .u64 t0) (v1 := .int .i64 z0) (v2 := .int .u32 r0) (v3 := .int .u32 f0) (v4 := .int .u32 p0) (v5 := .int .u64 t1) (v6 := .int .i64 z1) (v7 := .int .u32 r1) (v8 := .int .u32 f1) (v9 := .int .u32 p1) (x0 := .bool b0) (x1 := .bool b1) Ra.out (Nat.ne_of_lt lt_Ra_Rb.out)
      have BF := both_sb (v0 := .int .u64 t0) (v1 := .int .i64 z0) (v2 := .int .u32 r0) (v3 := .int .u32 f0) (v4 := .int .u32 p0) (v5 := .int .u64 t1) (v6 := .int .i64 z1) (v7 := .int .u32 r1) (v8 := .int .u32 f1) (v9 := .int .u32 p1) (x0 := .bool b0) (x1 := .bool b1) Rb.out (Nat.ne_of_gt lt_Ra_Rb.out)
      exact bodyPost_ret (results_rows rfl _ _ w.heap.size gRb #[.int .u64 t0, .int .i64 z0, .int .u32 r0, .int .u32 f0, .int .u32 p0, .int .u64 t1, .int .i64 z1, .int .u32 r1, .int .u32 f1, .int .u32 p1] #[.bool b0, .bool b1] rfl rfl (run_loadVar_row _ w.heap.size 36 36 _ (0, 0) _ AF Try.underlying36 rfl HI.out) (run_loadVar_row _ gRb 37 37 _ (0, 0) _ BF Try.underlying37 rfl HJ.out)) rfl ⟨rfl, both_below HB.out (Nat.le_refl _) ge_Rb.out⟩
set_option maxRecDepth 100000 in
set_option maxHeartbeats 6400000 in
theorem rnew_arg (size : Int) (s : ByteArray)  (w : World) (hg : goodSize size = false) :
    Calls Try.prog 21 #[.int .i64 size, .string s] w fun e w' => e = .returned (.tuple #[.agg #[.int .u64 0, .int .i64 0, .int .u32 0, .int .u32 0, .int .u32 0], .int .i64 2]) ∧ Below w.heap.size w w' := by
  have HG := fun w => rgood_is size false w hg
  clear hg
  obtain ⟨hz, hi⟩ := zero_of_info infoM2
  obtain ⟨hy, hj⟩ := zero_of_info infoB2
  obtain ⟨hx, hm⟩ := zero_of_info infoMt
  have HI := Lib.hid hi
  have HJ := Lib.hid hj
  have HM := Lib.hid hm
  clear hi hj hm
  have HB := Lib.hid (Below.refl w.heap.size w)
  go_enter Try.func21, Try.ntmps21
  obtain ⟨w101, hw101⟩ : ∃ x, x = w.alloc (.cells #[.int .u64 0, .int .i64 0, .int .u32 0, .int .u32 0, .int .u32 0] 31) := ⟨_, rfl⟩
  have saw101 : w.heap.size = w.heap.size := by first | rfl | omega
  have ge_Ra := Lib.hid (show w.heap.size ≤ w.heap.size from saw101 ▸ HB.out.size)
  replace HB := Lib.hid (show Below w.heap.size w w101 by rw [hw101]; exact HB.out.alloc HB.out.size _)
  have Ra := Lib.hid (show Blk w101 w.heap.size 31 #[.int .u64 0, .int .i64 0, .int .u32 0, .int .u32 0, .int .u32 0] by rw [hw101, ← saw101]; exact Blk.new _ _ _)
  have szw101 : w101.heap.size = w.heap.size + 1 := by rw [hw101]; simp
  clear saw101 szw101
  go_wp2_with fail
  rw [← hw101]
  clear hw101
  refine (HG _).mono ?_
  rintro e w102 ⟨rfl, rfl⟩
  clear HG
  have g0 := Ra.out.frozen 0
  have g1 := Ra.out.frozen 1
  have g2 := Ra.out.frozen 2
  have g3 := Ra.out.frozen 3
  have g4 := Ra.out.frozen 4
  have cRa_0 := Ra.out.cell 0
  have cRa_1 := Ra.out.cell 1
  have cRa_2 := Ra.out.cell 2
  have cRa_3 := Ra.out.cell 3
  have cRa_4 := Ra.out.cell 4
  simp at cRa_0 cRa_1 cRa_2 cRa_3 cRa_4
  go_wp2_with fail
  exact bodyPost_ret (read_row rfl _ _ _ w.heap.size #[.int .u64 0, .int .i64 0, .int .u32 0, .int .u32 0, .int .u32 0] rfl (load_meta (five_at Ra.out))) rfl ⟨rfl, five_below HB.out (Nat.le_refl _)⟩
set_option maxRecDepth 100000 in
set_option maxHeartbeats 6400000 in
theorem rnew_none (size : Int) (s : ByteArray) (t0 : Nat) (z0 : Int) (r0 f0 p0 : Nat) (t1 : Nat) (z1 : Int) (r1 f1 p1 : Nat) (w : World) (hg : goodSize size = true) (h0 : MetaAt size s 0 t0 z0 r0 f0 p0 false) (h1 : MetaAt size s 1 t1 z1 r1 f1 p1 false) (hs : s.size ≤ maxLen) :
    Calls Try.prog 21 #[.int .i64 size, .string s] w fun e w' => e = .returned (.tuple #[.agg #[.int .u64 0, .int .i64 0, .int .u32 0, .int .u32 0, .int .u32 0], .int .i64 5]) ∧ Below w.heap.size w w' := by
  have HG := fun w => rgood_is size true w hg
  have HBo := fun w => rboth_any size s t0 z0 r0 f0 p0 false t1 z1 r1 f1 p1 false w h0 h1 hs
  clear hg h0 h1 hs
  obtain ⟨hz, hi⟩ := zero_of_info infoM2
  obtain ⟨hy, hj⟩ := zero_of_info infoB2
  obtain ⟨hx, hm⟩ := zero_of_info infoMt
  have HI := Lib.hid hi
  have HJ := Lib.hid hj
  have HM := Lib.hid hm
  clear hi hj hm
  have HB := Lib.hid (Below.refl w.heap.size w)
  go_enter Try.func21, Try.ntmps21
  obtain ⟨w101, hw101⟩ : ∃ x, x = w.alloc (.cells #[.int .u64 0, .int .i64 0, .int .u32 0, .int .u32 0, .int .u32 0] 31) := ⟨_, rfl⟩
  have saw101 : w.heap.size = w.heap.size := by first | rfl | omega
  have ge_Ra := Lib.hid (show w.heap.size ≤ w.heap.size from saw101 ▸ HB.out.size)
  replace HB := Lib.hid (show Below w.heap.size w w101 by rw [hw101]; exact HB.out.alloc HB.out.size _)
  have Ra := Lib.hid (show Blk w101 w.heap.size 31 #[.int .u64 0, .int .i64 0, .int .u32 0, .int .u32 0, .int .u32 0] by rw [hw101, ← saw101]; exact Blk.new _ _ _)
  have szw101 : w101.heap.size = w.heap.size + 1 := by rw [hw101]; simp
  clear saw101 szw101
  go_wp2_with fail
  rw [← hw101]
  clear hw101
  refine (HG _).mono ?_
  rintro e w102 ⟨rfl, rfl⟩
  clear HG
  go_wp2_with fail
  refine (HBo _).mono ?_
  rintro e w103 ⟨rfl, hb⟩
  replace HB := Lib.hid (HB.out.trans (hb.mono HB.out.size))
  replace Ra := Lib.hid (Ra.out.below hb Ra.out.lt)
  clear hb
  clear HBo
  obtain ⟨v105, hv105⟩ : ∃ x, x = w103.alloc (.cells #[.int .u64 t0, .int .i64 z0, .int .u32 r0, .int .u32 f0, .int .u32 p0, .int .u64 t1, .int .i64 z1, .int .u32 r1, .int .u32 f1, .int .u32 p1] 36) := ⟨_, rfl⟩
  have sav105 : w103.heap.size = w103.heap.size := by first | rfl | omega
  have lt_Ra_M := Lib.hid (show w.heap.size < w103.heap.size from sav105 ▸ Ra.out.lt)
  replace Ra := Lib.hid (show Blk v105 w.heap.size 31 #[.int .u64 0, .int .i64 0, .int .u32 0, .int .u32 0, .int .u32 0] by rw [hv105]; exact Ra.out.alloc _)
  have ge_M := Lib.hid (show w.heap.size ≤ w103.heap.size from sav105 ▸ HB.out.size)
  replace HB := Lib.hid (show Below w.heap.size w v105 by rw [hv105]; exact HB.out.alloc HB.out.size _)
  have M := Lib.hid (show Blk v105 w103.heap.size 36 #[.int .u64 t0, .int .i64 z0, .int .u32 r0, .int .u32 f0, .int .u32 p0, .int .u64 t1, .int .i64 z1, .int .u32 r1, .int .u32 f1, .int .u32 p1] by rw [hv105, ← sav105]; exact Blk.new _ _ _)
  have szv105 : v105.heap.size = w103.heap.size + 1 := by rw [hv105]; simp
  obtain ⟨w104, hw104⟩ : ∃ x, x = v105.alloc (.cells #[.bool false, .bool false] 37) := ⟨_, rfl⟩
  have saw104 : v105.heap.size = (w103.heap.size + 1) := by first | rfl | omega
  have lt_Ra_R := Lib.hid (show w.heap.size < (w103.heap.size + 1) from saw104 ▸ Ra.out.lt)
  replace Ra := Lib.hid (show Blk w104 w.heap.size 31 #[.int .u64 0, .int .i64 0, .int .u32 0, .int .u32 0, .int .u32 0] by rw [hw104]; exact Ra.out.alloc _)
  have lt_M_R := Lib.hid (show w103.heap.size < (w103.heap.size + 1) from saw104 ▸ M.out.lt)
  replace M := Lib.hid (show Blk w104 w103.heap.size 36 #[.int .u64 t0, .int .i64 z0, .int .u32 r0, .int .u32 f0, .int .u32 p0, .int .u64 t1, .int .i64 z1, .int .u32 r1, .int .u32 f1, .int .u32 p1] by rw [hw104]; exact M.out.alloc _)
  have ge_R := Lib.hid (show w.heap.size ≤ (w103.heap.size + 1) from saw104 ▸ HB.out.size)
  replace HB := Lib.hid (show Below w.heap.size w w104 by rw [hw104]; exact HB.out.alloc HB.out.size _)
  have R := Lib.hid (show Blk w104 (w103.heap.size + 1) 37 #[.bool false, .bool false] by rw [hw104, ← saw104]; exact Blk.new _ _ _)
  have szw104 : w104.heap.size = v105.heap.size + 1 := by rw [hw104]; simp
  clear sav105 szv105 saw104 szw104
  go_upto_region 4 with fail
  rw [← hv105, ← hw104]
  clear hv105 hw104
  generalize (w103.heap.size + 1) = gR at *
  generalize w103.heap.size = gM at *
  have hn_Ra_M : ¬ w.heap.size = gM := Nat.ne_of_lt lt_Ra_M.out
  have hn_Ra_R : ¬ w.heap.size = gR := Nat.ne_of_lt lt_Ra_R.out
  have hn_M_Ra : ¬ gM = w.heap.size := Nat.ne_of_gt lt_Ra_M.out
  have hn_M_R : ¬ gM = gR := Nat.ne_of_lt lt_M_R.out
  have hn_R_Ra : ¬ gR = w.heap.size := Nat.ne_of_gt lt_Ra_R.out
  have hn_R_M : ¬ gR = gM := Nat.ne_of_gt lt_M_R.out
  have g0 := Ra.out.frozen 0
  have g1 := Ra.out.frozen 1
  have g2 := Ra.out.frozen 2
  have g3 := Ra.out.frozen 3
  have g4 := Ra.out.frozen 4
  have cRa_0 := Ra.out.cell 0
  have cRa_1 := Ra.out.cell 1
  have cRa_2 := Ra.out.cell 2
  have cRa_3 := Ra.out.cell 3
  have cRa_4 := Ra.out.cell 4
  have cM_0 := M.out.cell 0
  have cM_1 := M.out.cell 1
  have cM_2 := M.out.cell 2
  have cM_3 := M.out.cell 3
  have cM_4 := M.out.cell 4
  have cM_5 := M.out.cell 5
  have cM_6 := M.out.cell 6
  have cM_7 := M.out.cell 7
  have cM_8 := M.out.cell 8
  have cM_9 := M.out.cell 9
  have cR_0 := R.out.cell 0
  have cR_1 := R.out.cell 1
  simp at cRa_0 cRa_1 cRa_2 cRa_3 cRa_4 cM_0 cM_1 cM_2 cM_3 cM_4 cM_5 cM_6 cM_7 cM_8 cM_9 cR_0 cR_1
  go_wp2_with fail
  exact bodyPost_ret (read_row rfl _ _ _ w.heap.size #[.int .u64 0, .int .i64 0, .int .u32 0, .int .u32 0, .int .u32 0] rfl (load_meta (five_at Ra.out))) rfl ⟨rfl, five_below HB.out (Nat.le_refl _)⟩
set_option maxRecDepth 100000 in
set_option maxHeartbeats 6400000 in
theorem rnew_a (size : Int) (s : ByteArray) (t0 : Nat) (z0 : Int) (r0 f0 p0 : Nat) (t1 : Nat) (z1 : Int) (r1 f1 p1 : Nat) (w : World) (hg : goodSize size = true) (h0 : MetaAt size s 0 t0 z0 r0 f0 p0 true) (h1 : MetaAt size s 1 t1 z1 r1 f1 p1 false) (hs : s.size ≤ maxLen) :
    Calls Try.prog 21 #[.int .i64 size, .string s] w fun e w' => e = .returned (.tuple #[.agg #[.int .u64 t0, .int .i64 z0, .int .u32 r0, .int .u32 f0, .int .u32 p0], .int .i64 0]) ∧ Below w.heap.size w w' := by
  have HG := fun w => rgood_is size true w hg
  have HBo := fun w => rboth_any size s t0 z0 r0 f0 p0 true t1 z1 r1 f1 p1 false w h0 h1 hs
  clear hg h0 h1 hs
  obtain ⟨hz, hi⟩ := zero_of_info infoM2
  obtain ⟨hy, hj⟩ := zero_of_info infoB2
  obtain ⟨hx, hm⟩ := zero_of_info infoMt
  have HI := Lib.hid hi
  have HJ := Lib.hid hj
  have HM := Lib.hid hm
  clear hi hj hm
  have HB := Lib.hid (Below.refl w.heap.size w)
  go_enter Try.func21, Try.ntmps21
  obtain ⟨w101, hw101⟩ : ∃ x, x = w.alloc (.cells #[.int .u64 0, .int .i64 0, .int .u32 0, .int .u32 0, .int .u32 0] 31) := ⟨_, rfl⟩
  have saw101 : w.heap.size = w.heap.size := by first | rfl | omega
  have ge_Ra := Lib.hid (show w.heap.size ≤ w.heap.size from saw101 ▸ HB.out.size)
  replace HB := Lib.hid (show Below w.heap.size w w101 by rw [hw101]; exact HB.out.alloc HB.out.size _)
  have Ra := Lib.hid (show Blk w101 w.heap.size 31 #[.int .u64 0, .int .i64 0, .int .u32 0, .int .u32 0, .int .u32 0] by rw [hw101, ← saw101]; exact Blk.new _ _ _)
  have szw101 : w101.heap.size = w.heap.size + 1 := by rw [hw101]; simp
  clear saw101 szw101
  go_wp2_with fail
  rw [← hw101]
  clear hw101
  refine (HG _).mono ?_
  rintro e w102 ⟨rfl, rfl⟩
  clear HG
  go_wp2_with fail
  refine (HBo _).mono ?_
  rintro e w103 ⟨rfl, hb⟩
  replace HB := Lib.hid (HB.out.trans (hb.mono HB.out.size))
  replace Ra := Lib.hid (Ra.out.below hb Ra.out.lt)
  clear hb
  clear HBo
  obtain ⟨v105, hv105⟩ : ∃ x, x = w103.alloc (.cells #[.int .u64 t0, .int .i64 z0, .int .u32 r0, .int .u32 f0, .int .u32 p0, .int .u64 t1, .int .i64 z1, .int .u32 r1, .int .u32 f1, .int .u32 p1] 36) := ⟨_, rfl⟩
  have sav105 : w103.heap.size = w103.heap.size := by first | rfl | omega
  have lt_Ra_M := Lib.hid (show w.heap.size < w103.heap.size from sav105 ▸ Ra.out.lt)
  replace Ra := Lib.hid (show Blk v105 w.heap.size 31 #[.int .u64 0, .int .i64 0, .int .u32 0, .int .u32 0, .int .u32 0] by rw [hv105]; exact Ra.out.alloc _)
  have ge_M := Lib.hid (show w.heap.size ≤ w103.heap.size from sav105 ▸ HB.out.size)
  replace HB := Lib.hid (show Below w.heap.size w v105 by rw [hv105]; exact HB.out.alloc HB.out.size _)
  have M := Lib.hid (show Blk v105 w103.heap.size 36 #[.int .u64 t0, .int .i64 z0, .int .u32 r0, .int .u32 f0, .int .u32 p0, .int .u64 t1, .int .i64 z1, .int .u32 r1, .int .u32 f1, .int .u32 p1] by rw [hv105, ← sav105]; exact Blk.new _ _ _)
  have szv105 : v105.heap.size = w103.heap.size + 1 := by rw [hv105]; simp
  obtain ⟨w104, hw104⟩ : ∃ x, x = v105.alloc (.cells #[.bool true, .bool false] 37) := ⟨_, rfl⟩
  have saw104 : v105.heap.size = (w103.heap.size + 1) := by first | rfl | omega
  have lt_Ra_R := Lib.hid (show w.heap.size < (w103.heap.size + 1) from saw104 ▸ Ra.out.lt)
  replace Ra := Lib.hid (show Blk w104 w.heap.size 31 #[.int .u64 0, .int .i64 0, .int .u32 0, .int .u32 0, .int .u32 0] by rw [hw104]; exact Ra.out.alloc _)
  have lt_M_R := Lib.hid (show w103.heap.size < (w103.heap.size + 1) from saw104 ▸ M.out.lt)
  replace M := Lib.hid (show Blk w104 w103.heap.size 36 #[.int .u64 t0, .int .i64 z0, .int .u32 r0, .int .u32 f0, .int .u32 p0, .int .u64 t1, .int .i64 z1, .int .u32 r1, .int .u32 f1, .int .u32 p1] by rw [hw104]; exact M.out.alloc _)
  have ge_R := Lib.hid (show w.heap.size ≤ (w103.heap.size + 1) from saw104 ▸ HB.out.size)
  replace HB := Lib.hid (show Below w.heap.size w w104 by rw [hw104]; exact HB.out.alloc HB.out.size _)
  have R := Lib.hid (show Blk w104 (w103.heap.size + 1) 37 #[.bool true, .bool false] by rw [hw104, ← saw104]; exact Blk.new _ _ _)
  have szw104 : w104.heap.size = v105.heap.size + 1 := by rw [hw104]; simp
  clear sav105 szv105 saw104 szw104
  go_upto_region 4 with fail
  rw [← hv105, ← hw104]
  clear hv105 hw104
  generalize (w103.heap.size + 1) = gR at *
  generalize w103.heap.size = gM at *
  have hn_Ra_M : ¬ w.heap.size = gM := Nat.ne_of_lt lt_Ra_M.out
  have hn_Ra_R : ¬ w.heap.size = gR := Nat.ne_of_lt lt_Ra_R.out
  have hn_M_Ra : ¬ gM = w.heap.size := Nat.ne_of_gt lt_Ra_M.out
  have hn_M_R : ¬ gM = gR := Nat.ne_of_lt lt_M_R.out
  have hn_R_Ra : ¬ gR = w.heap.size := Nat.ne_of_gt lt_Ra_R.out
  have hn_R_M : ¬ gR = gM := Nat.ne_of_gt lt_M_R.out
  have g0 := Ra.out.frozen 0
  have g1 := Ra.out.frozen 1
  have g2 := Ra.out.frozen 2
  have g3 := Ra.out.frozen 3
  have g4 := Ra.out.frozen 4
  have cRa_0 := Ra.out.cell 0
  have cRa_1 := Ra.out.cell 1
  have cRa_2 := Ra.out.cell 2
  have cRa_3 := Ra.out.cell 3
  have cRa_4 := Ra.out.cell 4
  have cM_0 := M.out.cell 0
  have cM_1 := M.out.cell 1
  have cM_2 := M.out.cell 2
  have cM_3 := M.out.cell 3
  have cM_4 := M.out.cell 4
  have cM_5 := M.out.cell 5
  have cM_6 := M.out.cell 6
  have cM_7 := M.out.cell 7
  have cM_8 := M.out.cell 8
  have cM_9 := M.out.cell 9
  have cR_0 := R.out.cell 0
  have cR_1 := R.out.cell 1
  simp at cRa_0 cRa_1 cRa_2 cRa_3 cRa_4 cM_0 cM_1 cM_2 cM_3 cM_4 cM_5 cM_6 cM_7 cM_8 cM_9 cR_0 cR_1
  go_wp2_with fail
  exact bodyPost_ret (read_row rfl _ _ _ w.heap.size #[.int .u64 t0, .int .i64 z0, .int .u32 r0, .int .u32 f0, .int .u32 p0] rfl (load_meta (five_at Ra.out))) rfl ⟨rfl, five_below HB.out (Nat.le_refl _)⟩
set_option maxRecDepth 100000 in
set_option maxHeartbeats 6400000 in
theorem rnew_b (size : Int) (s : ByteArray) (t0 : Nat) (z0 : Int) (r0 f0 p0 : Nat) (t1 : Nat) (z1 : Int) (r1 f1 p1 : Nat) (w : World) (hg : goodSize size = true) (h0 : MetaAt size s 0 t0 z0 r0 f0 p0 false) (h1 : MetaAt size s 1 t1 z1 r1 f1 p1 true) (hs : s.size ≤ maxLen) :
    Calls Try.prog 21 #[.int .i64 size, .string s] w fun e w' => e = .returned (.tuple #[.agg #[.int .u64 t1, .int .i64 z1, .int .u32 r1, .int .u32 f1, .int .u32 p1], .int .i64 0]) ∧ Below w.heap.size w w' := by
  have HG := fun w => rgood_is size true w hg
  have HBo := fun w => rboth_any size s t0 z0 r0 f0 p0 false t1 z1 r1 f1 p1 true w h0 h1 hs
  clear hg h0 h1 hs
  obtain ⟨hz, hi⟩ := zero_of_info infoM2
  obtain ⟨hy, hj⟩ := zero_of_info infoB2
  obtain ⟨hx, hm⟩ := zero_of_info infoMt
  have HI := Lib.hid hi
  have HJ := Lib.hid hj
  have HM := Lib.hid hm
  clear hi hj hm
  have HB := Lib.hid (Below.refl w.heap.size w)
  go_enter Try.func21, Try.ntmps21
  obtain ⟨w101, hw101⟩ : ∃ x, x = w.alloc (.cells #[.int .u64 0, .int .i64 0, .int .u32 0, .int .u32 0, .int .u32 0] 31) := ⟨_, rfl⟩
  have saw101 : w.heap.size = w.heap.size := by first | rfl | omega
  have ge_Ra := Lib.hid (show w.heap.size ≤ w.heap.size from saw101 ▸ HB.out.size)
  replace HB := Lib.hid (show Below w.heap.size w w101 by rw [hw101]; exact HB.out.alloc HB.out.size _)
  have Ra := Lib.hid (show Blk w101 w.heap.size 31 #[.int .u64 0, .int .i64 0, .int .u32 0, .int .u32 0, .int .u32 0] by rw [hw101, ← saw101]; exact Blk.new _ _ _)
  have szw101 : w101.heap.size = w.heap.size + 1 := by rw [hw101]; simp
  clear saw101 szw101
  go_wp2_with fail
  rw [← hw101]
  clear hw101
  refine (HG _).mono ?_
  rintro e w102 ⟨rfl, rfl⟩
  clear HG
  go_wp2_with fail
  refine (HBo _).mono ?_
  rintro e w103 ⟨rfl, hb⟩
  replace HB := Lib.hid (HB.out.trans (hb.mono HB.out.size))
  replace Ra := Lib.hid (Ra.out.below hb Ra.out.lt)
  clear hb
  clear HBo
  obtain ⟨v105, hv105⟩ : ∃ x, x = w103.alloc (.cells #[.int .u64 t0, .int .i64 z0, .int .u32 r0, .int .u32 f0, .int .u32 p0, .int .u64 t1, .int .i64 z1, .int .u32 r1, .int .u32 f1, .int .u32 p1] 36) := ⟨_, rfl⟩
  have sav105 : w103.heap.size = w103.heap.size := by first | rfl | omega
  have lt_Ra_M := Lib.hid (show w.heap.size < w103.heap.size from sav105 ▸ Ra.out.lt)
  replace Ra := Lib.hid (show Blk v105 w.heap.size 31 #[.int .u64 0, .int .i64 0, .int .u32 0, .int .u32 0, .int .u32 0] by rw [hv105]; exact Ra.out.alloc _)
  have ge_M := Lib.hid (show w.heap.size ≤ w103.heap.size from sav105 ▸ HB.out.size)
  replace HB := Lib.hid (show Below w.heap.size w v105 by rw [hv105]; exact HB.out.alloc HB.out.size _)
  have M := Lib.hid (show Blk v105 w103.heap.size 36 #[.int .u64 t0, .int .i64 z0, .int .u32 r0, .int .u32 f0, .int .u32 p0, .int .u64 t1, .int .i64 z1, .int .u32 r1, .int .u32 f1, .int .u32 p1] by rw [hv105, ← sav105]; exact Blk.new _ _ _)
  have szv105 : v105.heap.size = w103.heap.size + 1 := by rw [hv105]; simp
  obtain ⟨w104, hw104⟩ : ∃ x, x = v105.alloc (.cells #[.bool false, .bool true] 37) := ⟨_, rfl⟩
  have saw104 : v105.heap.size = (w103.heap.size + 1) := by first | rfl | omega
  have lt_Ra_R := Lib.hid (show w.heap.size < (w103.heap.size + 1) from saw104 ▸ Ra.out.lt)
  replace Ra := Lib.hid (show Blk w104 w.heap.size 31 #[.int .u64 0, .int .i64 0, .int .u32 0, .int .u32 0, .int .u32 0] by rw [hw104]; exact Ra.out.alloc _)
  have lt_M_R := Lib.hid (show w103.heap.size < (w103.heap.size + 1) from saw104 ▸ M.out.lt)
  replace M := Lib.hid (show Blk w104 w103.heap.size 36 #[.int .u64 t0, .int .i64 z0, .int .u32 r0, .int .u32 f0, .int .u32 p0, .int .u64 t1, .int .i64 z1, .int .u32 r1, .int .u32 f1, .int .u32 p1] by rw [hw104]; exact M.out.alloc _)
  have ge_R := Lib.hid (show w.heap.size ≤ (w103.heap.size + 1) from saw104 ▸ HB.out.size)
  replace HB := Lib.hid (show Below w.heap.size w w104 by rw [hw104]; exact HB.out.alloc HB.out.size _)
  have R := Lib.hid (show Blk w104 (w103.heap.size + 1) 37 #[.bool false, .bool true] by rw [hw104, ← saw104]; exact Blk.new _ _ _)
  have szw104 : w104.heap.size = v105.heap.size + 1 := by rw [hw104]; simp
  clear sav105 szv105 saw104 szw104
  go_upto_region 4 with fail
  rw [← hv105, ← hw104]
  clear hv105 hw104
  generalize (w103.heap.size + 1) = gR at *
  generalize w103.heap.size = gM at *
  have hn_Ra_M : ¬ w.heap.size = gM := Nat.ne_of_lt lt_Ra_M.out
  have hn_Ra_R : ¬ w.heap.size = gR := Nat.ne_of_lt lt_Ra_R.out
  have hn_M_Ra : ¬ gM = w.heap.size := Nat.ne_of_gt lt_Ra_M.out
  have hn_M_R : ¬ gM = gR := Nat.ne_of_lt lt_M_R.out
  have hn_R_Ra : ¬ gR = w.heap.size := Nat.ne_of_gt lt_Ra_R.out
  have hn_R_M : ¬ gR = gM := Nat.ne_of_gt lt_M_R.out
  have g0 := Ra.out.frozen 0
  have g1 := Ra.out.frozen 1
  have g2 := Ra.out.frozen 2
  have g3 := Ra.out.frozen 3
  have g4 := Ra.out.frozen 4
  have cRa_0 := Ra.out.cell 0
  have cRa_1 := Ra.out.cell 1
  have cRa_2 := Ra.out.cell 2
  have cRa_3 := Ra.out.cell 3
  have cRa_4 := Ra.out.cell 4
  have cM_0 := M.out.cell 0
  have cM_1 := M.out.cell 1
  have cM_2 := M.out.cell 2
  have cM_3 := M.out.cell 3
  have cM_4 := M.out.cell 4
  have cM_5 := M.out.cell 5
  have cM_6 := M.out.cell 6
  have cM_7 := M.out.cell 7
  have cM_8 := M.out.cell 8
  have cM_9 := M.out.cell 9
  have cR_0 := R.out.cell 0
  have cR_1 := R.out.cell 1
  simp at cRa_0 cRa_1 cRa_2 cRa_3 cRa_4 cM_0 cM_1 cM_2 cM_3 cM_4 cM_5 cM_6 cM_7 cM_8 cM_9 cR_0 cR_1
  go_wp2_with fail
  exact bodyPost_ret (read_row rfl _ _ _ w.heap.size #[.int .u64 t1, .int .i64 z1, .int .u32 r1, .int .u32 f1, .int .u32 p1] rfl (load_meta (five_at Ra.out))) rfl ⟨rfl, five_below HB.out (Nat.le_refl _)⟩
set_option maxRecDepth 100000 in
set_option maxHeartbeats 6400000 in
theorem rnew_ab (size : Int) (s : ByteArray) (t0 : Nat) (z0 : Int) (r0 f0 p0 : Nat) (t1 : Nat) (z1 : Int) (r1 f1 p1 : Nat) (w : World) (hg : goodSize size = true) (h0 : MetaAt size s 0 t0 z0 r0 f0 p0 true) (h1 : MetaAt size s 1 t1 z1 r1 f1 p1 true) (hs : s.size ≤ maxLen) (hlt : t0 < t1) :
    Calls Try.prog 21 #[.int .i64 size, .string s] w fun e w' => e = .returned (.tuple #[.agg #[.int .u64 t1, .int .i64 z1, .int .u32 r1, .int .u32 f1, .int .u32 p1], .int .i64 0]) ∧ Below w.heap.size w w' := by
  have HG := fun w => rgood_is size true w hg
  have HBo := fun w => rboth_any size s t0 z0 r0 f0 p0 true t1 z1 r1 f1 p1 true w h0 h1 hs
  clear hg h0 h1 hs
  have hgt : decide (t1 > t0) = true := by simp; omega
  have hgt2 : decide (t0 < t1) = true := by simp; omega
  clear hlt
  obtain ⟨hz, hi⟩ := zero_of_info infoM2
  obtain ⟨hy, hj⟩ := zero_of_info infoB2
  obtain ⟨hx, hm⟩ := zero_of_info infoMt
  have HI := Lib.hid hi
  have HJ := Lib.hid hj
  have HM := Lib.hid hm
  clear hi hj hm
  have HB := Lib.hid (Below.refl w.heap.size w)
  go_enter Try.func21, Try.ntmps21
  obtain ⟨w101, hw101⟩ : ∃ x, x = w.alloc (.cells #[.int .u64 0, .int .i64 0, .int .u32 0, .int .u32 0, .int .u32 0] 31) := ⟨_, rfl⟩
  have saw101 : w.heap.size = w.heap.size := by first | rfl | omega
  have ge_Ra := Lib.hid (show w.heap.size ≤ w.heap.size from saw101 ▸ HB.out.size)
  replace HB := Lib.hid (show Below w.heap.size w w101 by rw [hw101]; exact HB.out.alloc HB.out.size _)
  have Ra := Lib.hid (show Blk w101 w.heap.size 31 #[.int .u64 0, .int .i64 0, .int .u32 0, .int .u32 0, .int .u32 0] by rw [hw101, ← saw101]; exact Blk.new _ _ _)
  have szw101 : w101.heap.size = w.heap.size + 1 := by rw [hw101]; simp
  clear saw101 szw101
  go_wp2_with fail
  rw [← hw101]
  clear hw101
  refine (HG _).mono ?_
  rintro e w102 ⟨rfl, rfl⟩
  clear HG
  go_wp2_with fail
  refine (HBo _).mono ?_
  rintro e w103 ⟨rfl, hb⟩
  replace HB := Lib.hid (HB.out.trans (hb.mono HB.out.size))
  replace Ra := Lib.hid (Ra.out.below hb Ra.out.lt)
  clear hb
  clear HBo
  obtain ⟨v105, hv105⟩ : ∃ x, x = w103.alloc (.cells #[.int .u64 t0, .int .i64 z0, .int .u32 r0, .int .u32 f0, .int .u32 p0, .int .u64 t1, .int .i64 z1, .int .u32 r1, .int .u32 f1, .int .u32 p1] 36) := ⟨_, rfl⟩
  have sav105 : w103.heap.size = w103.heap.size := by first | rfl | omega
  have lt_Ra_M := Lib.hid (show w.heap.size < w103.heap.size from sav105 ▸ Ra.out.lt)
  replace Ra := Lib.hid (show Blk v105 w.heap.size 31 #[.int .u64 0, .int .i64 0, .int .u32 0, .int .u32 0, .int .u32 0] by rw [hv105]; exact Ra.out.alloc _)
  have ge_M := Lib.hid (show w.heap.size ≤ w103.heap.size from sav105 ▸ HB.out.size)
  replace HB := Lib.hid (show Below w.heap.size w v105 by rw [hv105]; exact HB.out.alloc HB.out.size _)
  have M := Lib.hid (show Blk v105 w103.heap.size 36 #[.int .u64 t0, .int .i64 z0, .int .u32 r0, .int .u32 f0, .int .u32 p0, .int .u64 t1, .int .i64 z1, .int .u32 r1, .int .u32 f1, .int .u32 p1] by rw [hv105, ← sav105]; exact Blk.new _ _ _)
  have szv105 : v105.heap.size = w103.heap.size + 1 := by rw [hv105]; simp
  obtain ⟨w104, hw104⟩ : ∃ x, x = v105.alloc (.cells #[.bool true, .bool true] 37) := ⟨_, rfl⟩
  have saw104 : v105.heap.size = (w103.heap.size + 1) := by first | rfl | omega
  have lt_Ra_R := Lib.hid (show w.heap.size < (w103.heap.size + 1) from saw104 ▸ Ra.out.lt)
  replace Ra := Lib.hid (show Blk w104 w.heap.size 31 #[.int .u64 0, .int .i64 0, .int .u32 0, .int .u32 0, .int .u32 0] by rw [hw104]; exact Ra.out.alloc _)
  have lt_M_R := Lib.hid (show w103.heap.size < (w103.heap.size + 1) from saw104 ▸ M.out.lt)
  replace M := Lib.hid (show Blk w104 w103.heap.size 36 #[.int .u64 t0, .int .i64 z0, .int .u32 r0, .int .u32 f0, .int .u32 p0, .int .u64 t1, .int .i64 z1, .int .u32 r1, .int .u32 f1, .int .u32 p1] by rw [hw104]; exact M.out.alloc _)
  have ge_R := Lib.hid (show w.heap.size ≤ (w103.heap.size + 1) from saw104 ▸ HB.out.size)
  replace HB := Lib.hid (show Below w.heap.size w w104 by rw [hw104]; exact HB.out.alloc HB.out.size _)
  have R := Lib.hid (show Blk w104 (w103.heap.size + 1) 37 #[.bool true, .bool true] by rw [hw104, ← saw104]; exact Blk.new _ _ _)
  have szw104 : w104.heap.size = v105.heap.size + 1 := by rw [hw104]; simp
  clear sav105 szv105 saw104 szw104
  go_upto_region 4 with fail
  rw [← hv105, ← hw104]
  clear hv105 hw104
  generalize (w103.heap.size + 1) = gR at *
  generalize w103.heap.size = gM at *
  have hn_Ra_M : ¬ w.heap.size = gM := Nat.ne_of_lt lt_Ra_M.out
  have hn_Ra_R : ¬ w.heap.size = gR := Nat.ne_of_lt lt_Ra_R.out
  have hn_M_Ra : ¬ gM = w.heap.size := Nat.ne_of_gt lt_Ra_M.out
  have hn_M_R : ¬ gM = gR := Nat.ne_of_lt lt_M_R.out
  have hn_R_Ra : ¬ gR = w.heap.size := Nat.ne_of_gt lt_Ra_R.out
  have hn_R_M : ¬ gR = gM := Nat.ne_of_gt lt_M_R.out
  have g0 := Ra.out.frozen 0
  have g1 := Ra.out.frozen 1
  have g2 := Ra.out.frozen 2
  have g3 := Ra.out.frozen 3
  have g4 := Ra.out.frozen 4
  have cRa_0 := Ra.out.cell 0
  have cRa_1 := Ra.out.cell 1
  have cRa_2 := Ra.out.cell 2
  have cRa_3 := Ra.out.cell 3
  have cRa_4 := Ra.out.cell 4
  have cM_0 := M.out.cell 0
  have cM_1 := M.out.cell 1
  have cM_2 := M.out.cell 2
  have cM_3 := M.out.cell 3
  have cM_4 := M.out.cell 4
  have cM_5 := M.out.cell 5
  have cM_6 := M.out.cell 6
  have cM_7 := M.out.cell 7
  have cM_8 := M.out.cell 8
  have cM_9 := M.out.cell 9
  have cR_0 := R.out.cell 0
  have cR_1 := R.out.cell 1
  simp at cRa_0 cRa_1 cRa_2 cRa_3 cRa_4 cM_0 cM_1 cM_2 cM_3 cM_4 cM_5 cM_6 cM_7 cM_8 cM_9 cR_0 cR_1
  go_wp2_with fail
  exact bodyPost_ret (read_row rfl _ _ _ w.heap.size #[.int .u64 t1, .int .i64 z1, .int .u32 r1, .int .u32 f1, .int .u32 p1] rfl (load_meta (five_at Ra.out))) rfl ⟨rfl, five_below HB.out (Nat.le_refl _)⟩
set_option maxRecDepth 100000 in
set_option maxHeartbeats 6400000 in
theorem rnew_ba (size : Int) (s : ByteArray) (t0 : Nat) (z0 : Int) (r0 f0 p0 : Nat) (t1 : Nat) (z1 : Int) (r1 f1 p1 : Nat) (w : World) (hg : goodSize size = true) (h0 : MetaAt size s 0 t0 z0 r0 f0 p0 true) (h1 : MetaAt size s 1 t1 z1 r1 f1 p1 true) (hs : s.size ≤ maxLen) (hlt : t1 < t0) :
    Calls Try.prog 21 #[.int .i64 size, .string s] w fun e w' => e = .returned (.tuple #[.agg #[.int .u64 t0, .int .i64 z0, .int .u32 r0, .int .u32 f0, .int .u32 p0], .int .i64 0]) ∧ Below w.heap.size w w' := by
  have HG := fun w => rgood_is size true w hg
  have HBo := fun w => rboth_any size s t0 z0 r0 f0 p0 true t1 z1 r1 f1 p1 true w h0 h1 hs
  clear hg h0 h1 hs
  have hgt : decide (t1 > t0) = false := by simp; omega
  have hgt2 : decide (t0 < t1) = false := by simp; omega
  clear hlt
  obtain ⟨hz, hi⟩ := zero_of_info infoM2
  obtain ⟨hy, hj⟩ := zero_of_info infoB2
  obtain ⟨hx, hm⟩ := zero_of_info infoMt
  have HI := Lib.hid hi
  have HJ := Lib.hid hj
  have HM := Lib.hid hm
  clear hi hj hm
  have HB := Lib.hid (Below.refl w.heap.size w)
  go_enter Try.func21, Try.ntmps21
  obtain ⟨w101, hw101⟩ : ∃ x, x = w.alloc (.cells #[.int .u64 0, .int .i64 0, .int .u32 0, .int .u32 0, .int .u32 0] 31) := ⟨_, rfl⟩
  have saw101 : w.heap.size = w.heap.size := by first | rfl | omega
  have ge_Ra := Lib.hid (show w.heap.size ≤ w.heap.size from saw101 ▸ HB.out.size)
  replace HB := Lib.hid (show Below w.heap.size w w101 by rw [hw101]; exact HB.out.alloc HB.out.size _)
  have Ra := Lib.hid (show Blk w101 w.heap.size 31 #[.int .u64 0, .int .i64 0, .int .u32 0, .int .u32 0, .int .u32 0] by rw [hw101, ← saw101]; exact Blk.new _ _ _)
  have szw101 : w101.heap.size = w.heap.size + 1 := by rw [hw101]; simp
  clear saw101 szw101
  go_wp2_with fail
  rw [← hw101]
  clear hw101
  refine (HG _).mono ?_
  rintro e w102 ⟨rfl, rfl⟩
  clear HG
  go_wp2_with fail
  refine (HBo _).mono ?_
  rintro e w103 ⟨rfl, hb⟩
  replace HB := Lib.hid (HB.out.trans (hb.mono HB.out.size))
  replace Ra := Lib.hid (Ra.out.below hb Ra.out.lt)
  clear hb
  clear HBo
  obtain ⟨v105, hv105⟩ : ∃ x, x = w103.alloc (.cells #[.int .u64 t0, .int .i64 z0, .int .u32 r0, .int .u32 f0, .int .u32 p0, .int .u64 t1, .int .i64 z1, .int .u32 r1, .int .u32 f1, .int .u32 p1] 36) := ⟨_, rfl⟩
  have sav105 : w103.heap.size = w103.heap.size := by first | rfl | omega
  have lt_Ra_M := Lib.hid (show w.heap.size < w103.heap.size from sav105 ▸ Ra.out.lt)
  replace Ra := Lib.hid (show Blk v105 w.heap.size 31 #[.int .u64 0, .int .i64 0, .int .u32 0, .int .u32 0, .int .u32 0] by rw [hv105]; exact Ra.out.alloc _)
  have ge_M := Lib.hid (show w.heap.size ≤ w103.heap.size from sav105 ▸ HB.out.size)
  replace HB := Lib.hid (show Below w.heap.size w v105 by rw [hv105]; exact HB.out.alloc HB.out.size _)
  have M := Lib.hid (show Blk v105 w103.heap.size 36 #[.int .u64 t0, .int .i64 z0, .int .u32 r0, .int .u32 f0, .int .u32 p0, .int .u64 t1, .int .i64 z1, .int .u32 r1, .int .u32 f1, .int .u32 p1] by rw [hv105, ← sav105]; exact Blk.new _ _ _)
  have szv105 : v105.heap.size = w103.heap.size + 1 := by rw [hv105]; simp
  obtain ⟨w104, hw104⟩ : ∃ x, x = v105.alloc (.cells #[.bool true, .bool true] 37) := ⟨_, rfl⟩
  have saw104 : v105.heap.size = (w103.heap.size + 1) := by first | rfl | omega
  have lt_Ra_R := Lib.hid (show w.heap.size < (w103.heap.size + 1) from saw104 ▸ Ra.out.lt)
  replace Ra := Lib.hid (show Blk w104 w.heap.size 31 #[.int .u64 0, .int .i64 0, .int .u32 0, .int .u32 0, .int .u32 0] by rw [hw104]; exact Ra.out.alloc _)
  have lt_M_R := Lib.hid (show w103.heap.size < (w103.heap.size + 1) from saw104 ▸ M.out.lt)
  replace M := Lib.hid (show Blk w104 w103.heap.size 36 #[.int .u64 t0, .int .i64 z0, .int .u32 r0, .int .u32 f0, .int .u32 p0, .int .u64 t1, .int .i64 z1, .int .u32 r1, .int .u32 f1, .int .u32 p1] by rw [hw104]; exact M.out.alloc _)
  have ge_R := Lib.hid (show w.heap.size ≤ (w103.heap.size + 1) from saw104 ▸ HB.out.size)
  replace HB := Lib.hid (show Below w.heap.size w w104 by rw [hw104]; exact HB.out.alloc HB.out.size _)
  have R := Lib.hid (show Blk w104 (w103.heap.size + 1) 37 #[.bool true, .bool true] by rw [hw104, ← saw104]; exact Blk.new _ _ _)
  have szw104 : w104.heap.size = v105.heap.size + 1 := by rw [hw104]; simp
  clear sav105 szv105 saw104 szw104
  go_upto_region 4 with fail
  rw [← hv105, ← hw104]
  clear hv105 hw104
  generalize (w103.heap.size + 1) = gR at *
  generalize w103.heap.size = gM at *
  have hn_Ra_M : ¬ w.heap.size = gM := Nat.ne_of_lt lt_Ra_M.out
  have hn_Ra_R : ¬ w.heap.size = gR := Nat.ne_of_lt lt_Ra_R.out
  have hn_M_Ra : ¬ gM = w.heap.size := Nat.ne_of_gt lt_Ra_M.out
  have hn_M_R : ¬ gM = gR := Nat.ne_of_lt lt_M_R.out
  have hn_R_Ra : ¬ gR = w.heap.size := Nat.ne_of_gt lt_Ra_R.out
  have hn_R_M : ¬ gR = gM := Nat.ne_of_gt lt_M_R.out
  have g0 := Ra.out.frozen 0
  have g1 := Ra.out.frozen 1
  have g2 := Ra.out.frozen 2
  have g3 := Ra.out.frozen 3
  have g4 := Ra.out.frozen 4
  have cRa_0 := Ra.out.cell 0
  have cRa_1 := Ra.out.cell 1
  have cRa_2 := Ra.out.cell 2
  have cRa_3 := Ra.out.cell 3
  have cRa_4 := Ra.out.cell 4
  have cM_0 := M.out.cell 0
  have cM_1 := M.out.cell 1
  have cM_2 := M.out.cell 2
  have cM_3 := M.out.cell 3
  have cM_4 := M.out.cell 4
  have cM_5 := M.out.cell 5
  have cM_6 := M.out.cell 6
  have cM_7 := M.out.cell 7
  have cM_8 := M.out.cell 8
  have cM_9 := M.out.cell 9
  have cR_0 := R.out.cell 0
  have cR_1 := R.out.cell 1
  simp at cRa_0 cRa_1 cRa_2 cRa_3 cRa_4 cM_0 cM_1 cM_2 cM_3 cM_4 cM_5 cM_6 cM_7 cM_8 cM_9 cR_0 cR_1
  go_wp2_with fail
  exact bodyPost_ret (read_row rfl _ _ _ w.heap.size #[.int .u64 t0, .int .i64 z0, .int .u32 r0, .int .u32 f0, .int .u32 p0] rfl (load_meta (five_at Ra.out))) rfl ⟨rfl, five_below HB.out (Nat.le_refl _)⟩
end Go.Proofs.Ytfmalohaaibhiaa
