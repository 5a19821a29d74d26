/-
  The walk of the statement MetaTurns: from every start, at every argument, it returns true and changes no block that was there before.
-/
import Derived.Test.YtfmalohaaibhiaaMetaBlk
import Derived.Test.YtfmalohaaibhiaaKitLaw
import Derived.Deep.RegionHeld3
import Derived.Deep.DrawnRows
namespace Go.Proofs.Ytfmalohaaibhiaa
open Go.RowKit
open Go.Lib hiding intOf
set_option linter.unusedVariables false
set_option linter.unusedSimpArgs false
attribute [local go_sem ↓] Go.wp_at_zero Go.wp_at_succ

/-- What stands behind k rounds: the image is two blocks; the one of the last meta (t, rt), or zeros. -/
def TInv (tx k : Nat) (s : ByteArray) (t : Nat) (z : Int) (rt fr ps : Nat) : Prop :=
  ∃ O P : ByteArray, O.size = 128 ∧ P.size = 128 ∧ s = (if (tx + k) % 2 = 0 then O ++ P else P ++ O) ∧
    ((k = 0 ∧ P = reps ⟨#[0]⟩ 128 ∧ t = 0 ∧ z = 0 ∧ rt = 0 ∧ fr = 0 ∧ ps = 0) ∨ (0 < k ∧ t + 1 = tx + k ∧ z = 128 ∧ fr = 3 ∧ ps = 100 ∧ mayM t 128 rt 3 100 = true ∧ P = metaB t 128 rt 3 100))
theorem tmay (t x : Nat) (ht : t ≤ 4611686018427387904) (hx : x < 92) (hx2 : 2 ≤ x) : mayM t 128 x 3 100 = true := by
  simp only [mayM, refM, Bool.and_eq_true, decide_eq_true_eq]
  refine ⟨ht, by decide, by decide, by decide, ⟨by omega, ?_⟩, by decide⟩
  have : ¬ x = 1 := by omega
  simp [this]
theorem zero_bad (k : Nat) : blockOk 128 k (reps ⟨#[0]⟩ 128) = false := by
  rw [Bool.eq_false_iff]
  intro h
  simp only [blockOk, Bool.and_eq_true, decide_eq_true_eq] at h
  have h5 := h.2.2.1
  rw [numAt, reps_list] at h5
  rw [show ((⟨#[0]⟩ : ByteArray).data.toList) = [0] from rfl, rep_one, List.drop_replicate, List.take_replicate] at h5
  exact absurd h5 (by decide)
theorem reps_two (b : UInt8) (n m : Nat) : reps ⟨#[b]⟩ (n + m) = reps ⟨#[b]⟩ n ++ reps ⟨#[b]⟩ m := by
  apply bytes_ext
  rw [ByteArray.data_append, Array.toList_append, reps_list, reps_list, reps_list]
  rw [show ((⟨#[b]⟩ : ByteArray).data.toList) = [b] from rfl, rep_one, rep_one, rep_one, List.replicate_append_replicate]
theorem tinv0 (tx : Nat) : TInv tx 0 (reps ⟨#[0]⟩ 256) 0 0 0 0 0 := by
  refine ⟨reps ⟨#[0]⟩ 128, reps ⟨#[0]⟩ 128, reps_lit_size 0 128, reps_lit_size 0 128, ?_, .inl ⟨rfl, rfl, rfl, rfl, rfl, rfl, rfl⟩⟩
  rw [show (256 : Nat) = 128 + 128 from rfl, reps_two]
  split <;> rfl
theorem meta_neq (a0 a1 a2 a3 a4 : Int) (w : World) : (binOp .neq 31 (.agg #[.int .u64 a0, .int .i64 a1, .int .u32 a2, .int .u32 a3, .int .u32 a4]) (.agg #[.int .u64 a0, .int .i64 a1, .int .u32 a2, .int .u32 a3, .int .u32 a4])).run Try.prog w = .ok (.bool false) w := by
  simp [go_sem]
theorem ext_lo (a b : ByteArray) (h : a.size = 128) : (a ++ b).extract 0 128 = a := by
  apply bytes_ext
  rw [Lib.extract_data, ByteArray.data_append, Array.toList_append, List.drop_zero, List.take_append_of_le_length (by rw [size_list, h]; decide), List.take_of_length_le (by rw [size_list, h]; decide)]
theorem ext_hi (a b : ByteArray) (h : a.size = 128) (h2 : b.size = 128) : (a ++ b).extract 128 256 = b := by
  apply bytes_ext
  rw [Lib.extract_data, ByteArray.data_append, Array.toList_append, List.drop_left' (by rw [size_list, h]), List.take_of_length_le (by rw [size_list, h2]; decide)]

set_option maxRecDepth 100000 in
set_option maxHeartbeats 3200000 in
theorem mturns_far (tx : Nat) (a : Option Addr) (len cap : Nat) (zs : List Int) (w : World) (h1 : 4611686018427387864 < tx) :
    Calls Try.prog 7 #[.int .u64 tx, .slice a len cap] w fun e w' => e = .returned (.bool true) ∧ Below w.heap.size w w' := by
  have hd : decide ((tx : Int) > 4611686018427387864) = true := by simp; omega
  have hd2 : decide ((4611686018427387864 : Int) < tx) = true := by simp; omega
  clear h1
  go_enter Try.func7, Try.ntmps7
  go_wp2_with fail
  refine (lives5_any _).mono ?_
  rintro e w1 ⟨rfl, hb⟩
  go_wp2_with fail
  go_ret
  exact ⟨rfl, hb⟩
set_option maxRecDepth 100000 in
set_option maxHeartbeats 3200000 in
theorem mturns_long (tx : Nat) (a : Option Addr) (len cap : Nat) (zs : List Int) (w : World) (h1 : ¬ 4611686018427387864 < tx) (h2 : 20 < len) :
    Calls Try.prog 7 #[.int .u64 tx, .slice a len cap] w fun e w' => e = .returned (.bool true) ∧ Below w.heap.size w w' := by
  have hd : decide ((4611686018427387864 : Int) < tx) = false := by simp; omega
  have hd2 : decide ((20 : Int) < len) = true := by simp; omega
  clear h1
  clear h2
  go_enter Try.func7, Try.ntmps7
  go_wp2_with fail
  refine (lives5_any _).mono ?_
  rintro e w1 ⟨rfl, hb⟩
  go_wp2_with fail
  go_ret
  exact ⟨rfl, hb⟩
set_option maxRecDepth 100000 in
set_option maxHeartbeats 25600000 in
theorem mturns_main (tx : Nat) (a : Option Addr) (len cap : Nat) (zs : List Int) (w : World) (h1 : ¬ 4611686018427387864 < tx) (h2 : ¬ 20 < len) (hz : IsRow .u32 w a len cap zs) :
    Calls Try.prog 7 #[.int .u64 tx, .slice a len cap] w fun e w' => e = .returned (.bool true) ∧ Below w.heap.size w w' := by
  obtain ⟨hr0, hlc, hcm, hll, hwf⟩ := hz.reads
  generalize hls : zs.take len = ls at *
  unfold maxLen at hcm
  have R0 := Lib.hid hr0
  have WF := Lib.hid hwf
  have hd : decide ((4611686018427387864 : Int) < tx) = false := by simp; omega
  have hd2 : decide ((20 : Int) < len) = false := by simp; omega
  obtain ⟨Z, hZ⟩ : ∃ Z, Z = reps ⟨#[0]⟩ 256 := ⟨_, rfl⟩
  have HT : ∀ w : World, Calls Try.prog 16 #[.string ⟨#[0]⟩, .int .i64 256] w fun e w' => e = .returned (.string Z) ∧ w' = w := fun w => by rw [hZ]; exact (times_any ⟨#[0]⟩ 256 w (by decide) (by decide)).mono fun _ _ ⟨h1, h2⟩ => ⟨h1, h2.symm⟩
  have HZ := Lib.hid hZ
  have H1 := Lib.hid h1
  have H2 := Lib.hid h2
  clear hz hr0 hwf hls hll hZ h1 h2
  obtain ⟨hz, hi⟩ := zero_of_info infoMt
  have HI := Lib.hid hi
  obtain ⟨hz2, hi2⟩ := zero_of_info infoM2
  have HI2 := Lib.hid hi2
  obtain ⟨hz3, hi3⟩ := zero_of_info infoB2
  have HI3 := Lib.hid hi3
  clear hi hi2 hi3
  go_enter Try.func7, Try.ntmps7
  go_wp2_with fail
  refine (lives5_any _).mono ?_
  rintro e w1 ⟨rfl, hb⟩
  have HB := Lib.hid hb
  clear hb
  go_wp2_with fail
  refine (HT _).mono ?_
  rintro e w2 ⟨rfl, rfl⟩
  obtain ⟨w101, hw101⟩ : ∃ x, x = w2.alloc (.cells #[.int .u64 0, .int .i64 0, .int .u32 0, .int .u32 0, .int .u32 0] 31) := ⟨_, rfl⟩
  have V := Lib.hid (show Blk w101 w2.heap.size 31 #[.int .u64 0, .int .i64 0, .int .u32 0, .int .u32 0, .int .u32 0] by rw [hw101]; exact (Blk.new _ _ _))
  have ge_V := Lib.hid (show w.heap.size ≤ w2.heap.size from HB.out.size)
  have HB' := Lib.hid (show Below w.heap.size w w101 by rw [hw101]; have r0 := HB.out.alloc HB.out.size (.cells #[.int .u64 0, .int .i64 0, .int .u32 0, .int .u32 0, .int .u32 0] 31); exact r0)
  replace HB := HB'; clear HB'
  go_wp2_with fail
  rw [← hw101]
  clear hw101 
  generalize w2.heap.size = gV at *
  clear HT
  go_loopw [5, 7] (fun im i wr => ∃ (k : Nat) (s : ByteArray) (t : Nat) (z : Int) (rt fr ps : Nat), k ≤ len ∧ i = .int .i64 k ∧ im = .string s ∧ TInv tx k s t z rt fr ps ∧ Hid (Blk wr gV 31 #[.int .u64 t, .int .i64 z, .int .u32 rt, .int .u32 fr, .int .u32 ps]) ∧ Hid (Below w.heap.size w wr)) (fun _ i _ => len - (intOf i).toNat)
  case atStart => exact ⟨0, Z, 0, 0, 0, 0, 0, Nat.zero_le _, rfl, rfl, by rw [HZ.out]; exact tinv0 tx, V, HB⟩
  case round =>
    clear V HB
    obtain ⟨k, im, t, z, rt, fr, ps, hk, rfl, rfl, HInv, V, HB⟩ := hrel
    by_cases hlt : k < len
    · obtain ⟨adl, x, rfl, habl, hx, hcx⟩ := int_at R0.out hlt
      have hxb := bounds_u32 (WF.out x (List.mem_of_getElem? hx))
      obtain ⟨xn, rfl⟩ := Int.eq_ofNat_of_zero_le hxb.1
      obtain ⟨ty, hty⟩ : ∃ ty : Nat, ty = tx + k := ⟨_, rfl⟩
      obtain ⟨rn, hrn⟩ : ∃ rn : Nat, rn = 2 + xn % 90 := ⟨_, rfl⟩
      have htx := H1.out
      have hlen := H2.out
      have hmy : mayM ty 128 rn 3 100 = true := tmay ty rn (by omega) (by omega) (by omega)
      obtain ⟨B, hB⟩ : ∃ B, B = metaB ty 128 rn 3 100 := ⟨_, rfl⟩
      have HK : ∀ w : World, Calls Try.prog 13 #[.agg #[.int .u64 ty, .int .i64 128, .int .u32 rn, .int .u32 3, .int .u32 100]] w fun e w' => e = .returned (.string B) ∧ Below w.heap.size w w' := fun w => mblock_is ty 128 rn 3 100 B w hmy hB
      have hBs : B.size = 128 := by rw [hB]; exact metaB_size ty 128 rn 3 100 (by decide)
      have HO1 : ∀ w : World, Calls Try.prog 11 #[.int .u64 ty] w fun e w' => e = .returned (.agg #[.int .u64 ty, .int .i64 128, .int .u32 2, .int .u32 3, .int .u32 9]) ∧ Below w.heap.size w w' := fun w => one_is ty w
      have hem := fun w => meta_neq ty 128 rn 3 100 w
      obtain ⟨O, Pb, hOs, hPs, him, hcase⟩ := HInv
      have hg : goodSize ((128 : Nat) : Int) = true := by decide
      have HX := Lib.hid hcx
      have hk0 : (0 : Int) ≤ k := by omega
      have hk1 : (k : Int) < len := by omega
      have hty1 : ((tx : Int) + k) % 18446744073709551616 = (ty : Int) := by omega
      have hty2 : IntKind.u64.wrap ((tx : Int) + k) = (ty : Int) := by rw [IntKind.wrap_u64]; omega
      have hty3 : (tx : Int) + (k : Int) = (ty : Int) := by omega
      have hrn1 : (2 : Int) + (xn : Int) % 90 = (rn : Int) := by omega
      have hrn2 : (2 + (xn : Int) % 90) % 4294967296 = (rn : Int) := by omega
      have hrn3 : IntKind.u32.wrap (2 + (xn : Int) % 90) = (rn : Int) := by rw [IntKind.wrap_u32]; omega
      have hims : im.size = 256 := by rw [him]; split <;> (rw [ByteArray.size_append]; omega)
      have hi0 : (0 : Int) ≤ 128 := by decide
      rcases Nat.mod_two_eq_zero_or_one (tx + k) with hp | hp
      all_goals rcases hcase with ⟨hk00, rfl, rfl, rfl, rfl, rfl, rfl⟩ | ⟨hk00, htt, rfl, rfl, rfl, hmt, hPb⟩
  
      · skip
        obtain ⟨Pb, hPb⟩ : ∃ Pb, Pb = reps ⟨#[0]⟩ 128 := ⟨_, rfl⟩
        rw [← hPb] at him hPs
        rw [if_pos hp] at him
        have hps : ty % 2 = 0 := by rw [hty]; exact hp
        obtain ⟨b1, b2, b3⟩ := blk_two 128 B Pb hBs hPs
        obtain ⟨N, hN⟩ : ∃ N, N = (B ++ Pb) := ⟨_, rfl⟩
        rw [← hN] at b1 b2 b3
        have HN : ∀ w : World, Calls Try.prog 15 #[.int .i64 128, .string N] w fun e w' => e = .returned (.tuple #[.agg #[.int .u64 ty, .int .i64 128, .int .u32 rn, .int .u32 3, .int .u32 100], .int .i64 0]) ∧ Below w.heap.size w w' := fun w => mnew_a 128 N ty 128 rn 3 100 0 0 0 0 0 w hg (metaAt_block 128 0 N ty rn 3 100 hmy hps.symm (by rw [b3]; decide) (by rw [b1, hB])) (metaAt_bad 128 1 N (by rw [b2, hPb]; exact zero_bad 1)) (by rw [b3]; decide)
        have HBo : ∀ w : World, Calls Try.prog 14 #[.int .i64 128, .string N] w fun e w' => e = .returned (.tuple #[.agg #[.int .u64 ty, .int .i64 128, .int .u32 rn, .int .u32 3, .int .u32 100, .int .u64 0, .int .i64 0, .int .u32 0, .int .u32 0, .int .u32 0], .agg #[.bool true, .bool false]]) ∧ Below w.heap.size w w' := fun w => mboth_any 128 N ty 128 rn 3 100 true 0 0 0 0 0 false w (metaAt_block 128 0 N ty rn 3 100 hmy hps.symm (by rw [b3]; decide) (by rw [b1, hB])) (metaAt_bad 128 1 N (by rw [b2, hPb]; exact zero_bad 1)) (by rw [b3]; decide)
        have HS1 : ∀ w : World, Calls Try.prog 17 #[.int .u64 ty] w fun e w' => e = .returned (.int .u32 0) ∧ w' = w := fun w => slot_is ty 0 w hps.symm
        have HS2 : ∀ w : World, Calls Try.prog 17 #[.int .u64 0] w fun e w' => e = .returned (.int .u32 0) ∧ w' = w := fun w => slot_is 0 0 w (by decide)
        have hk3 : decide ((k : Int) > 0) = false := by simp; omega
        have hk4 : decide (0 < k) = false := by simp; omega
        have hcat : B ++ im.extract 128 256 = N := by
          rw [hN, him]
          rw [ext_hi O Pb hOs hPs]
        have hw1 : IntKind.i64.wrap 128 = 128 := by decide
        have hw2 : IntKind.i64.wrap 256 = 256 := by decide
        have HInv' : TInv tx (k + 1) N ty 128 rn 3 100 := by
          refine ⟨Pb, B, hPs, hBs, ?_, .inr ⟨by omega, by omega, rfl, rfl, rfl, hmy, hB⟩⟩
          rw [if_neg (by omega)]
          exact hN
        have HI' := Lib.hid HInv'
        have HK3 := Lib.hid hk3
        have HK4 := Lib.hid hk4
        have HC := Lib.hid hcat
        clear hk3 hk4 HInv' hcat him hPs hOs hN b1 b2 b3 hmy hB hPb hp hps hk00 hcx hx hxb hty hrn hg htx hlen
        
        go_wp2_with fail
        refine (HO1 _).mono ?_
        rintro e w102 ⟨rfl, hb⟩
        replace HB := Lib.hid (HB.out.trans (hb.mono HB.out.size))
        replace V := Lib.hid (V.out.below hb V.out.lt)
        clear hb
        clear HO1
        have x1 := cell_in HX.out HB.out habl
        have x0 := cell_in HX.out (HB.out.alloc HB.out.size (.cells #[.int .u64 ty, .int .i64 128, .int .u32 2, .int .u32 3, .int .u32 100] 31)) habl
        have lzV := V.out.lt
        have dV_0 := V.out.cell 0
        have dV_1 := V.out.cell 1
        have dV_2 := V.out.cell 2
        have dV_3 := V.out.cell 3
        have dV_4 := V.out.cell 4
        simp at dV_0 dV_1 dV_2 dV_3 dV_4
        obtain ⟨w103, hw103⟩ : ∃ x, x = w102.alloc (.cells #[.int .u64 ty, .int .i64 128, .int .u32 rn, .int .u32 3, .int .u32 100] 31) := ⟨_, rfl⟩
        have V' := Lib.hid (show Blk w103 gV 31 #[.int .u64 0, .int .i64 0, .int .u32 0, .int .u32 0, .int .u32 0] by rw [hw103]; exact (V.out.alloc _))
        have M := Lib.hid (show Blk w103 w102.heap.size 31 #[.int .u64 ty, .int .i64 128, .int .u32 rn, .int .u32 3, .int .u32 100] by rw [hw103]; exact (Blk.new _ _ _))
        have lt_V_M := Lib.hid (show gV < w102.heap.size from V.out.lt)
        have ge_M := Lib.hid (show w.heap.size ≤ w102.heap.size from HB.out.size)
        have HB' := Lib.hid (show Below w.heap.size w w103 by rw [hw103]; have r0 := HB.out.alloc HB.out.size (.cells #[.int .u64 ty, .int .i64 128, .int .u32 rn, .int .u32 3, .int .u32 100] 31); exact r0)
        replace V := V'; clear V'
        replace HB := HB'; clear HB'
        have cV_0 := V.out.cell 0
        have cV_1 := V.out.cell 1
        have cV_2 := V.out.cell 2
        have cV_3 := V.out.cell 3
        have cV_4 := V.out.cell 4
        have cM_0 := M.out.cell 0
        have cM_1 := M.out.cell 1
        have cM_2 := M.out.cell 2
        have cM_3 := M.out.cell 3
        have cM_4 := M.out.cell 4
        rw [hw103] at cV_0 cV_1 cV_2 cV_3 cV_4 cM_0 cM_1 cM_2 cM_3 cM_4
        simp at cV_0 cV_1 cV_2 cV_3 cV_4 cM_0 cM_1 cM_2 cM_3 cM_4
        have x2 := cell_in HX.out HB.out habl
        rw [hw103] at x2
        go_wp2_with fail
        rw [← hw103]
        clear hw103 lzV dV_0 dV_1 dV_2 dV_3 dV_4 cV_0 cV_1 cV_2 cV_3 cV_4 cM_0 cM_1 cM_2 cM_3 cM_4
        generalize w102.heap.size = gM at *
        clear x0 x1 x2 HX hrn1 hrn2 hrn3 hty1 hty2 hty3
        refine (HS1 _).mono ?_
        rintro e w104 ⟨rfl, rfl⟩
        have cV_0 := V.out.cell 0
        have cV_1 := V.out.cell 1
        have cV_2 := V.out.cell 2
        have cV_3 := V.out.cell 3
        have cV_4 := V.out.cell 4
        have cM_0 := M.out.cell 0
        have cM_1 := M.out.cell 1
        have cM_2 := M.out.cell 2
        have cM_3 := M.out.cell 3
        have cM_4 := M.out.cell 4
        simp at cV_0 cV_1 cV_2 cV_3 cV_4 cM_0 cM_1 cM_2 cM_3 cM_4
        go_wp2_with fail
        refine (HS2 _).mono ?_
        rintro e w105 ⟨rfl, rfl⟩
        go_wp2_with fail
        refine (HS1 _).mono ?_
        rintro e w106 ⟨rfl, rfl⟩
        go_wp2_with fail
        clear cV_0 cV_1 cV_2 cV_3 cV_4 cM_0 cM_1 cM_2 cM_3 cM_4
        replace V := Lib.hid V.out.drew
        replace M := Lib.hid M.out.drew
        replace HB := Lib.hid HB.out.drew
        go_region_held3 (fun w' => w'.cell? ⟨gM, 0, none⟩ = some (.int .u64 ty) ∧ w'.cell? ⟨gM, 1, none⟩ = some (.int .i64 128) ∧ w'.cell? ⟨gM, 2, none⟩ = some (.int .u32 rn) ∧ w'.cell? ⟨gM, 3, none⟩ = some (.int .u32 3) ∧ w'.cell? ⟨gM, 4, none⟩ = some (.int .u32 100)) (exact meta_cells M.out)
          (first
          | (go_at_call 13
             with_reducible refine (HK _).mono ?_
             rintro e wb ⟨rfl, hb⟩
             replace HB := Lib.hid (HB.out.trans (hb.mono HB.out.size))
             replace V := Lib.hid (V.out.below hb V.out.lt)
             replace M := Lib.hid (M.out.below hb M.out.lt)
             clear hb))
        rw [HC.out]
        clear HK hw1 hw2 HC
        go_wp2_with fail
        refine (HN _).mono ?_
        rintro e w107 ⟨rfl, hb⟩
        replace HB := Lib.hid (HB.out.trans (hb.mono HB.out.size))
        replace V := Lib.hid (V.out.below hb V.out.lt)
        replace M := Lib.hid (M.out.below hb M.out.lt)
        clear hb
        clear HN
        obtain ⟨w108, hw108⟩ : ∃ x, x = w107.alloc (.cells #[.int .u64 ty, .int .i64 128, .int .u32 rn, .int .u32 3, .int .u32 100] 31) := ⟨_, rfl⟩
        have V' := Lib.hid (show Blk w108 gV 31 #[.int .u64 0, .int .i64 0, .int .u32 0, .int .u32 0, .int .u32 0] by rw [hw108]; exact (V.out.alloc _))
        have M' := Lib.hid (show Blk w108 gM 31 #[.int .u64 ty, .int .i64 128, .int .u32 rn, .int .u32 3, .int .u32 100] by rw [hw108]; exact (M.out.alloc _))
        have Nn := Lib.hid (show Blk w108 w107.heap.size 31 #[.int .u64 ty, .int .i64 128, .int .u32 rn, .int .u32 3, .int .u32 100] by rw [hw108]; exact (Blk.new _ _ _))
        have lt_V_Nn := Lib.hid (show gV < w107.heap.size from V.out.lt)
        have lt_M_Nn := Lib.hid (show gM < w107.heap.size from M.out.lt)
        have ge_Nn := Lib.hid (show w.heap.size ≤ w107.heap.size from HB.out.size)
        have HB' := Lib.hid (show Below w.heap.size w w108 by rw [hw108]; have r0 := HB.out.alloc HB.out.size (.cells #[.int .u64 ty, .int .i64 128, .int .u32 rn, .int .u32 3, .int .u32 100] 31); exact r0)
        replace V := V'; clear V'
        replace M := M'; clear M'
        replace HB := HB'; clear HB'
        go_wp2_with fail
        rw [← hw108]
        clear hw108 
        generalize w107.heap.size = gNn at *
        refine (HBo _).mono ?_
        rintro e w109 ⟨rfl, hb⟩
        replace HB := Lib.hid (HB.out.trans (hb.mono HB.out.size))
        replace V := Lib.hid (V.out.below hb V.out.lt)
        replace M := Lib.hid (M.out.below hb M.out.lt)
        replace Nn := Lib.hid (Nn.out.below hb Nn.out.lt)
        clear hb
        clear HBo
        obtain ⟨w110, hw110⟩ : ∃ x, x = (w109.alloc (.cells #[.int .u64 ty, .int .i64 128, .int .u32 rn, .int .u32 3, .int .u32 100, .int .u64 0, .int .i64 0, .int .u32 0, .int .u32 0, .int .u32 0] 36)).alloc (.cells #[.bool true, .bool false] 37) := ⟨_, rfl⟩
        have V' := Lib.hid (show Blk w110 gV 31 #[.int .u64 0, .int .i64 0, .int .u32 0, .int .u32 0, .int .u32 0] by rw [hw110]; exact ((V.out.alloc _).alloc _))
        have M' := Lib.hid (show Blk w110 gM 31 #[.int .u64 ty, .int .i64 128, .int .u32 rn, .int .u32 3, .int .u32 100] by rw [hw110]; exact ((M.out.alloc _).alloc _))
        have Nn' := Lib.hid (show Blk w110 gNn 31 #[.int .u64 ty, .int .i64 128, .int .u32 rn, .int .u32 3, .int .u32 100] by rw [hw110]; exact ((Nn.out.alloc _).alloc _))
        have Bo := Lib.hid (show Blk w110 w109.heap.size 36 #[.int .u64 ty, .int .i64 128, .int .u32 rn, .int .u32 3, .int .u32 100, .int .u64 0, .int .i64 0, .int .u32 0, .int .u32 0, .int .u32 0] by rw [hw110]; exact ((Blk.new _ _ _).alloc _))
        have lt_V_Bo := Lib.hid (show gV < w109.heap.size from V.out.lt)
        have lt_M_Bo := Lib.hid (show gM < w109.heap.size from M.out.lt)
        have lt_Nn_Bo := Lib.hid (show gNn < w109.heap.size from Nn.out.lt)
        have ge_Bo := Lib.hid (show w.heap.size ≤ w109.heap.size from HB.out.size)
        have Rt := Lib.hid (show Blk w110 (w109.heap.size + 1) 37 #[.bool true, .bool false] by rw [hw110, show (w109.heap.size + 1) = ((w109.alloc (.cells #[.int .u64 ty, .int .i64 128, .int .u32 rn, .int .u32 3, .int .u32 100, .int .u64 0, .int .i64 0, .int .u32 0, .int .u32 0, .int .u32 0] 36))).heap.size by simp [World.setCell]]; exact (Blk.new _ _ _))
        have lt_V_Rt := Lib.hid (show gV < (w109.heap.size + 1) from Nat.lt_of_lt_of_le V.out.lt (Nat.le_add_right _ _))
        have lt_M_Rt := Lib.hid (show gM < (w109.heap.size + 1) from Nat.lt_of_lt_of_le M.out.lt (Nat.le_add_right _ _))
        have lt_Nn_Rt := Lib.hid (show gNn < (w109.heap.size + 1) from Nat.lt_of_lt_of_le Nn.out.lt (Nat.le_add_right _ _))
        have lt_Bo_Rt := Lib.hid (show w109.heap.size < (w109.heap.size + 1) by omega)
        have ge_Rt := Lib.hid (show w.heap.size ≤ (w109.heap.size + 1) from Nat.le_trans HB.out.size (Nat.le_add_right _ _))
        have HB' := Lib.hid (show Below w.heap.size w w110 by rw [hw110]; have r0 := HB.out.alloc HB.out.size (.cells #[.int .u64 ty, .int .i64 128, .int .u32 rn, .int .u32 3, .int .u32 100, .int .u64 0, .int .i64 0, .int .u32 0, .int .u32 0, .int .u32 0] 36); have r1 := r0.alloc r0.size (.cells #[.bool true, .bool false] 37); exact r1)
        replace V := V'; clear V'
        replace M := M'; clear M'
        replace Nn := Nn'; clear Nn'
        replace HB := HB'; clear HB'
        go_wp2_with fail
        rw [← hw110]
        clear hw110 
        generalize (w109.heap.size + 1) = gRt at *
        generalize w109.heap.size = gBo at *
        have cV_0 := V.out.cell 0
        have cV_1 := V.out.cell 1
        have cV_2 := V.out.cell 2
        have cV_3 := V.out.cell 3
        have cV_4 := V.out.cell 4
        have cM_0 := M.out.cell 0
        have cM_1 := M.out.cell 1
        have cM_2 := M.out.cell 2
        have cM_3 := M.out.cell 3
        have cM_4 := M.out.cell 4
        have cNn_0 := Nn.out.cell 0
        have cNn_1 := Nn.out.cell 1
        have cNn_2 := Nn.out.cell 2
        have cNn_3 := Nn.out.cell 3
        have cNn_4 := Nn.out.cell 4
        have cBo_0 := Bo.out.cell 0
        have cBo_1 := Bo.out.cell 1
        have cBo_2 := Bo.out.cell 2
        have cBo_3 := Bo.out.cell 3
        have cBo_4 := Bo.out.cell 4
        have cBo_5 := Bo.out.cell 5
        have cBo_6 := Bo.out.cell 6
        have cBo_7 := Bo.out.cell 7
        have cBo_8 := Bo.out.cell 8
        have cBo_9 := Bo.out.cell 9
        have cRt_0 := Rt.out.cell 0
        have cRt_1 := Rt.out.cell 1
        simp at cV_0 cV_1 cV_2 cV_3 cV_4 cM_0 cM_1 cM_2 cM_3 cM_4 cNn_0 cNn_1 cNn_2 cNn_3 cNn_4 cBo_0 cBo_1 cBo_2 cBo_3 cBo_4 cBo_5 cBo_6 cBo_7 cBo_8 cBo_9 cRt_0 cRt_1
        go_quiet ((go_at_call 17; exact Calls.quiet_of_same (HS1 _)))
        clear cV_0 cV_1 cV_2 cV_3 cV_4 cM_0 cM_1 cM_2 cM_3 cM_4 cNn_0 cNn_1 cNn_2 cNn_3 cNn_4 cBo_0 cBo_1 cBo_2 cBo_3 cBo_4 cBo_5 cBo_6 cBo_7 cBo_8 cBo_9 cRt_0 cRt_1
        replace V := Lib.hid (V.out.drewN nq)
        replace M := Lib.hid (M.out.drewN nq)
        replace Nn := Lib.hid (Nn.out.drewN nq)
        replace Bo := Lib.hid (Bo.out.drewN nq)
        replace Rt := Lib.hid (Rt.out.drewN nq)
        replace HB := Lib.hid (below_drewN HB.out nq)
        generalize w110.drewN nq = wq at *
        have cV_0 := V.out.cell 0
        have cV_1 := V.out.cell 1
        have cV_2 := V.out.cell 2
        have cV_3 := V.out.cell 3
        have cV_4 := V.out.cell 4
        have cM_0 := M.out.cell 0
        have cM_1 := M.out.cell 1
        have cM_2 := M.out.cell 2
        have cM_3 := M.out.cell 3
        have cM_4 := M.out.cell 4
        have cNn_0 := Nn.out.cell 0
        have cNn_1 := Nn.out.cell 1
        have cNn_2 := Nn.out.cell 2
        have cNn_3 := Nn.out.cell 3
        have cNn_4 := Nn.out.cell 4
        have cBo_0 := Bo.out.cell 0
        have cBo_1 := Bo.out.cell 1
        have cBo_2 := Bo.out.cell 2
        have cBo_3 := Bo.out.cell 3
        have cBo_4 := Bo.out.cell 4
        have cBo_5 := Bo.out.cell 5
        have cBo_6 := Bo.out.cell 6
        have cBo_7 := Bo.out.cell 7
        have cBo_8 := Bo.out.cell 8
        have cBo_9 := Bo.out.cell 9
        have cRt_0 := Rt.out.cell 0
        have cRt_1 := Rt.out.cell 1
        simp at cV_0 cV_1 cV_2 cV_3 cV_4 cM_0 cM_1 cM_2 cM_3 cM_4 cNn_0 cNn_1 cNn_2 cNn_3 cNn_4 cBo_0 cBo_1 cBo_2 cBo_3 cBo_4 cBo_5 cBo_6 cBo_7 cBo_8 cBo_9 cRt_0 cRt_1
        have hk3 := HK3.out
        have hk4 := HK4.out
        go_wp2_with fail
        go_quiet (fail)
        clear hk3 hk4 cV_0 cV_1 cV_2 cV_3 cV_4 cM_0 cM_1 cM_2 cM_3 cM_4 cNn_0 cNn_1 cNn_2 cNn_3 cNn_4 cBo_0 cBo_1 cBo_2 cBo_3 cBo_4 cBo_5 cBo_6 cBo_7 cBo_8 cBo_9 cRt_0 cRt_1
        replace V := Lib.hid (V.out.drewN nq)
        replace M := Lib.hid (M.out.drewN nq)
        replace Nn := Lib.hid (Nn.out.drewN nq)
        replace Bo := Lib.hid (Bo.out.drewN nq)
        replace Rt := Lib.hid (Rt.out.drewN nq)
        replace HB := Lib.hid (below_drewN HB.out nq)
        generalize wq.drewN nq = wz at *
        have fzV_0 := V.out.frozen 0
        have fzV_1 := V.out.frozen 1
        have fzV_2 := V.out.frozen 2
        have fzV_3 := V.out.frozen 3
        have fzV_4 := V.out.frozen 4
        have lzM := M.out.lt
        have lzV := V.out.lt
        have dM_0 := M.out.cell 0
        have dM_1 := M.out.cell 1
        have dM_2 := M.out.cell 2
        have dM_3 := M.out.cell 3
        have dM_4 := M.out.cell 4
        have dV_0 := V.out.cell 0
        have dV_1 := V.out.cell 1
        have dV_2 := V.out.cell 2
        have dV_3 := V.out.cell 3
        have dV_4 := V.out.cell 4
        simp at dM_0 dM_1 dM_2 dM_3 dM_4 dV_0 dV_1 dV_2 dV_3 dV_4
        obtain ⟨w111, hw111⟩ : ∃ x, x = ((((wz.setCell ⟨gV, 0, none⟩ (.int .u64 ty)).setCell ⟨gV, 1, none⟩ (.int .i64 128)).setCell ⟨gV, 2, none⟩ (.int .u32 rn)).setCell ⟨gV, 3, none⟩ (.int .u32 3)).setCell ⟨gV, 4, none⟩ (.int .u32 100) := ⟨_, rfl⟩
        have V' := Lib.hid (show Blk w111 gV 31 #[.int .u64 ty, .int .i64 128, .int .u32 rn, .int .u32 3, .int .u32 100] by rw [hw111]; exact (((((V.out.set_ 0 (.int .u64 ty)).set_ 1 (.int .i64 128)).set_ 2 (.int .u32 rn)).set_ 3 (.int .u32 3)).set_ 4 (.int .u32 100)))
        have M' := Lib.hid (show Blk w111 gM 31 #[.int .u64 ty, .int .i64 128, .int .u32 rn, .int .u32 3, .int .u32 100] by rw [hw111]; exact (((((M.out.far (p := ⟨gV, 0, none⟩) (Nat.ne_of_gt lt_V_M.out) (.int .u64 ty)).far (p := ⟨gV, 1, none⟩) (Nat.ne_of_gt lt_V_M.out) (.int .i64 128)).far (p := ⟨gV, 2, none⟩) (Nat.ne_of_gt lt_V_M.out) (.int .u32 rn)).far (p := ⟨gV, 3, none⟩) (Nat.ne_of_gt lt_V_M.out) (.int .u32 3)).far (p := ⟨gV, 4, none⟩) (Nat.ne_of_gt lt_V_M.out) (.int .u32 100)))
        have Nn' := Lib.hid (show Blk w111 gNn 31 #[.int .u64 ty, .int .i64 128, .int .u32 rn, .int .u32 3, .int .u32 100] by rw [hw111]; exact (((((Nn.out.far (p := ⟨gV, 0, none⟩) (Nat.ne_of_gt lt_V_Nn.out) (.int .u64 ty)).far (p := ⟨gV, 1, none⟩) (Nat.ne_of_gt lt_V_Nn.out) (.int .i64 128)).far (p := ⟨gV, 2, none⟩) (Nat.ne_of_gt lt_V_Nn.out) (.int .u32 rn)).far (p := ⟨gV, 3, none⟩) (Nat.ne_of_gt lt_V_Nn.out) (.int .u32 3)).far (p := ⟨gV, 4, none⟩) (Nat.ne_of_gt lt_V_Nn.out) (.int .u32 100)))
        have Bo' := Lib.hid (show Blk w111 gBo 36 #[.int .u64 ty, .int .i64 128, .int .u32 rn, .int .u32 3, .int .u32 100, .int .u64 0, .int .i64 0, .int .u32 0, .int .u32 0, .int .u32 0] by rw [hw111]; exact (((((Bo.out.far (p := ⟨gV, 0, none⟩) (Nat.ne_of_gt lt_V_Bo.out) (.int .u64 ty)).far (p := ⟨gV, 1, none⟩) (Nat.ne_of_gt lt_V_Bo.out) (.int .i64 128)).far (p := ⟨gV, 2, none⟩) (Nat.ne_of_gt lt_V_Bo.out) (.int .u32 rn)).far (p := ⟨gV, 3, none⟩) (Nat.ne_of_gt lt_V_Bo.out) (.int .u32 3)).far (p := ⟨gV, 4, none⟩) (Nat.ne_of_gt lt_V_Bo.out) (.int .u32 100)))
        have Rt' := Lib.hid (show Blk w111 gRt 37 #[.bool true, .bool false] by rw [hw111]; exact (((((Rt.out.far (p := ⟨gV, 0, none⟩) (Nat.ne_of_gt lt_V_Rt.out) (.int .u64 ty)).far (p := ⟨gV, 1, none⟩) (Nat.ne_of_gt lt_V_Rt.out) (.int .i64 128)).far (p := ⟨gV, 2, none⟩) (Nat.ne_of_gt lt_V_Rt.out) (.int .u32 rn)).far (p := ⟨gV, 3, none⟩) (Nat.ne_of_gt lt_V_Rt.out) (.int .u32 3)).far (p := ⟨gV, 4, none⟩) (Nat.ne_of_gt lt_V_Rt.out) (.int .u32 100)))
        have HB' := Lib.hid (show Below w.heap.size w w111 by rw [hw111]; have q0 := HB.out.setCell (p := ⟨gV, 0, none⟩) ge_V.out (.int .u64 ty); have q1 := q0.setCell (p := ⟨gV, 1, none⟩) ge_V.out (.int .i64 128); have q2 := q1.setCell (p := ⟨gV, 2, none⟩) ge_V.out (.int .u32 rn); have q3 := q2.setCell (p := ⟨gV, 3, none⟩) ge_V.out (.int .u32 3); have q4 := q3.setCell (p := ⟨gV, 4, none⟩) ge_V.out (.int .u32 100); exact q4)
        replace V := V'; clear V'
        replace M := M'; clear M'
        replace Nn := Nn'; clear Nn'
        replace Bo := Bo'; clear Bo'
        replace Rt := Rt'; clear Rt'
        replace HB := HB'; clear HB'
        have cM_0 := M.out.cell 0
        have cM_1 := M.out.cell 1
        have cM_2 := M.out.cell 2
        have cM_3 := M.out.cell 3
        have cM_4 := M.out.cell 4
        have cV_0 := V.out.cell 0
        have cV_1 := V.out.cell 1
        have cV_2 := V.out.cell 2
        have cV_3 := V.out.cell 3
        have cV_4 := V.out.cell 4
        rw [hw111] at cM_0 cM_1 cM_2 cM_3 cM_4 cV_0 cV_1 cV_2 cV_3 cV_4
        simp at cM_0 cM_1 cM_2 cM_3 cM_4 cV_0 cV_1 cV_2 cV_3 cV_4
        go_wp2_with fail
        rw [← hw111]
        clear hw111 fzV_0 fzV_1 fzV_2 fzV_3 fzV_4 lzM lzV dM_0 dM_1 dM_2 dM_3 dM_4 dV_0 dV_1 dV_2 dV_3 dV_4 cM_0 cM_1 cM_2 cM_3 cM_4 cV_0 cV_1 cV_2 cV_3 cV_4
        go_roundw
        case rel =>
          first
            | exact ⟨k + 1, N, ty, 128, rn, 3, 100, by omega, by go_num, rfl, HI'.out, V, HB⟩
            | ((repeat apply Exists.intro); exact ⟨⟨k + 1, N, ty, 128, rn, 3, 100, by omega, by go_num, rfl, HI'.out, V, HB⟩, rfl⟩)
        case measure => simp [intOf]; omega
      · skip
        rw [if_pos hp] at him
        have hps : ty % 2 = 0 := by rw [hty]; exact hp
        obtain ⟨b1, b2, b3⟩ := blk_two 128 B Pb hBs hPs
        obtain ⟨N, hN⟩ : ∃ N, N = (B ++ Pb) := ⟨_, rfl⟩
        rw [← hN] at b1 b2 b3
        have hqs : t % 2 = 1 := by omega
        have HN : ∀ w : World, Calls Try.prog 15 #[.int .i64 128, .string N] w fun e w' => e = .returned (.tuple #[.agg #[.int .u64 ty, .int .i64 128, .int .u32 rn, .int .u32 3, .int .u32 100], .int .i64 0]) ∧ Below w.heap.size w w' := fun w => mnew_ba 128 N ty 128 rn 3 100 t 128 rt 3 100 w hg (metaAt_block 128 0 N ty rn 3 100 hmy hps.symm (by rw [b3]; decide) (by rw [b1, hB])) (metaAt_block 128 1 N t rt 3 100 hmt hqs.symm (by rw [b3]; decide) (by rw [b2, hPb])) (by rw [b3]; decide) (by omega)
        have HBo : ∀ w : World, Calls Try.prog 14 #[.int .i64 128, .string N] w fun e w' => e = .returned (.tuple #[.agg #[.int .u64 ty, .int .i64 128, .int .u32 rn, .int .u32 3, .int .u32 100, .int .u64 t, .int .i64 128, .int .u32 rt, .int .u32 3, .int .u32 100], .agg #[.bool true, .bool true]]) ∧ Below w.heap.size w w' := fun w => mboth_any 128 N ty 128 rn 3 100 true t 128 rt 3 100 true w (metaAt_block 128 0 N ty rn 3 100 hmy hps.symm (by rw [b3]; decide) (by rw [b1, hB])) (metaAt_block 128 1 N t rt 3 100 hmt hqs.symm (by rw [b3]; decide) (by rw [b2, hPb])) (by rw [b3]; decide)
        have HS1 : ∀ w : World, Calls Try.prog 17 #[.int .u64 ty] w fun e w' => e = .returned (.int .u32 0) ∧ w' = w := fun w => slot_is ty 0 w hps.symm
        have HS2 : ∀ w : World, Calls Try.prog 17 #[.int .u64 t] w fun e w' => e = .returned (.int .u32 1) ∧ w' = w := fun w => slot_is t 1 w (by omega)
        have hwm := fun w => meta_neq t 128 rt 3 100 w
        have hk3 : decide ((k : Int) > 0) = true := by simp; omega
        have hk4 : decide (0 < k) = true := by simp; omega
        have hcat : B ++ im.extract 128 256 = N := by
          rw [hN, him]
          rw [ext_hi O Pb hOs hPs]
        have hw1 : IntKind.i64.wrap 128 = 128 := by decide
        have hw2 : IntKind.i64.wrap 256 = 256 := by decide
        have HInv' : TInv tx (k + 1) N ty 128 rn 3 100 := by
          refine ⟨Pb, B, hPs, hBs, ?_, .inr ⟨by omega, by omega, rfl, rfl, rfl, hmy, hB⟩⟩
          rw [if_neg (by omega)]
          exact hN
        have HI' := Lib.hid HInv'
        have HK3 := Lib.hid hk3
        have HK4 := Lib.hid hk4
        have HC := Lib.hid hcat
        clear hk3 hk4 HInv' hcat him hPs hOs hN b1 b2 b3 hmy hB hPb hp hps hk00 hcx hx hxb hty hrn hg htx hlen hmt htt hqs
        
        go_wp2_with fail
        refine (HO1 _).mono ?_
        rintro e w112 ⟨rfl, hb⟩
        replace HB := Lib.hid (HB.out.trans (hb.mono HB.out.size))
        replace V := Lib.hid (V.out.below hb V.out.lt)
        clear hb
        clear HO1
        have x1 := cell_in HX.out HB.out habl
        have x0 := cell_in HX.out (HB.out.alloc HB.out.size (.cells #[.int .u64 ty, .int .i64 128, .int .u32 2, .int .u32 3, .int .u32 100] 31)) habl
        have lzV := V.out.lt
        have dV_0 := V.out.cell 0
        have dV_1 := V.out.cell 1
        have dV_2 := V.out.cell 2
        have dV_3 := V.out.cell 3
        have dV_4 := V.out.cell 4
        simp at dV_0 dV_1 dV_2 dV_3 dV_4
        obtain ⟨w113, hw113⟩ : ∃ x, x = w112.alloc (.cells #[.int .u64 ty, .int .i64 128, .int .u32 rn, .int .u32 3, .int .u32 100] 31) := ⟨_, rfl⟩
        have V' := Lib.hid (show Blk w113 gV 31 #[.int .u64 t, .int .i64 128, .int .u32 rt, .int .u32 3, .int .u32 100] by rw [hw113]; exact (V.out.alloc _))
        have M := Lib.hid (show Blk w113 w112.heap.size 31 #[.int .u64 ty, .int .i64 128, .int .u32 rn, .int .u32 3, .int .u32 100] by rw [hw113]; exact (Blk.new _ _ _))
        have lt_V_M := Lib.hid (show gV < w112.heap.size from V.out.lt)
        have ge_M := Lib.hid (show w.heap.size ≤ w112.heap.size from HB.out.size)
        have HB' := Lib.hid (show Below w.heap.size w w113 by rw [hw113]; have r0 := HB.out.alloc HB.out.size (.cells #[.int .u64 ty, .int .i64 128, .int .u32 rn, .int .u32 3, .int .u32 100] 31); exact r0)
        replace V := V'; clear V'
        replace HB := HB'; clear HB'
        have cV_0 := V.out.cell 0
        have cV_1 := V.out.cell 1
        have cV_2 := V.out.cell 2
        have cV_3 := V.out.cell 3
        have cV_4 := V.out.cell 4
        have cM_0 := M.out.cell 0
        have cM_1 := M.out.cell 1
        have cM_2 := M.out.cell 2
        have cM_3 := M.out.cell 3
        have cM_4 := M.out.cell 4
        rw [hw113] at cV_0 cV_1 cV_2 cV_3 cV_4 cM_0 cM_1 cM_2 cM_3 cM_4
        simp at cV_0 cV_1 cV_2 cV_3 cV_4 cM_0 cM_1 cM_2 cM_3 cM_4
        have x2 := cell_in HX.out HB.out habl
        rw [hw113] at x2
        go_wp2_with fail
        rw [← hw113]
        clear hw113 lzV dV_0 dV_1 dV_2 dV_3 dV_4 cV_0 cV_1 cV_2 cV_3 cV_4 cM_0 cM_1 cM_2 cM_3 cM_4
        generalize w112.heap.size = gM at *
        clear x0 x1 x2 HX hrn1 hrn2 hrn3 hty1 hty2 hty3
        refine (HS1 _).mono ?_
        rintro e w114 ⟨rfl, rfl⟩
        have cV_0 := V.out.cell 0
        have cV_1 := V.out.cell 1
        have cV_2 := V.out.cell 2
        have cV_3 := V.out.cell 3
        have cV_4 := V.out.cell 4
        have cM_0 := M.out.cell 0
        have cM_1 := M.out.cell 1
        have cM_2 := M.out.cell 2
        have cM_3 := M.out.cell 3
        have cM_4 := M.out.cell 4
        simp at cV_0 cV_1 cV_2 cV_3 cV_4 cM_0 cM_1 cM_2 cM_3 cM_4
        go_wp2_with fail
        refine (HS2 _).mono ?_
        rintro e w115 ⟨rfl, rfl⟩
        go_wp2_with fail
        refine (HS1 _).mono ?_
        rintro e w116 ⟨rfl, rfl⟩
        go_wp2_with fail
        clear cV_0 cV_1 cV_2 cV_3 cV_4 cM_0 cM_1 cM_2 cM_3 cM_4
        replace V := Lib.hid V.out.drew
        replace M := Lib.hid M.out.drew
        replace HB := Lib.hid HB.out.drew
        go_region_held3 (fun w' => w'.cell? ⟨gM, 0, none⟩ = some (.int .u64 ty) ∧ w'.cell? ⟨gM, 1, none⟩ = some (.int .i64 128) ∧ w'.cell? ⟨gM, 2, none⟩ = some (.int .u32 rn) ∧ w'.cell? ⟨gM, 3, none⟩ = some (.int .u32 3) ∧ w'.cell? ⟨gM, 4, none⟩ = some (.int .u32 100)) (exact meta_cells M.out)
          (first
          | (go_at_call 13
             with_reducible refine (HK _).mono ?_
             rintro e wb ⟨rfl, hb⟩
             replace HB := Lib.hid (HB.out.trans (hb.mono HB.out.size))
             replace V := Lib.hid (V.out.below hb V.out.lt)
             replace M := Lib.hid (M.out.below hb M.out.lt)
             clear hb))
        rw [HC.out]
        clear HK hw1 hw2 HC
        go_wp2_with fail
        refine (HN _).mono ?_
        rintro e w117 ⟨rfl, hb⟩
        replace HB := Lib.hid (HB.out.trans (hb.mono HB.out.size))
        replace V := Lib.hid (V.out.below hb V.out.lt)
        replace M := Lib.hid (M.out.below hb M.out.lt)
        clear hb
        clear HN
        obtain ⟨w118, hw118⟩ : ∃ x, x = w117.alloc (.cells #[.int .u64 ty, .int .i64 128, .int .u32 rn, .int .u32 3, .int .u32 100] 31) := ⟨_, rfl⟩
        have V' := Lib.hid (show Blk w118 gV 31 #[.int .u64 t, .int .i64 128, .int .u32 rt, .int .u32 3, .int .u32 100] by rw [hw118]; exact (V.out.alloc _))
        have M' := Lib.hid (show Blk w118 gM 31 #[.int .u64 ty, .int .i64 128, .int .u32 rn, .int .u32 3, .int .u32 100] by rw [hw118]; exact (M.out.alloc _))
        have Nn := Lib.hid (show Blk w118 w117.heap.size 31 #[.int .u64 ty, .int .i64 128, .int .u32 rn, .int .u32 3, .int .u32 100] by rw [hw118]; exact (Blk.new _ _ _))
        have lt_V_Nn := Lib.hid (show gV < w117.heap.size from V.out.lt)
        have lt_M_Nn := Lib.hid (show gM < w117.heap.size from M.out.lt)
        have ge_Nn := Lib.hid (show w.heap.size ≤ w117.heap.size from HB.out.size)
        have HB' := Lib.hid (show Below w.heap.size w w118 by rw [hw118]; have r0 := HB.out.alloc HB.out.size (.cells #[.int .u64 ty, .int .i64 128, .int .u32 rn, .int .u32 3, .int .u32 100] 31); exact r0)
        replace V := V'; clear V'
        replace M := M'; clear M'
        replace HB := HB'; clear HB'
        go_wp2_with fail
        rw [← hw118]
        clear hw118 
        generalize w117.heap.size = gNn at *
        refine (HBo _).mono ?_
        rintro e w119 ⟨rfl, hb⟩
        replace HB := Lib.hid (HB.out.trans (hb.mono HB.out.size))
        replace V := Lib.hid (V.out.below hb V.out.lt)
        replace M := Lib.hid (M.out.below hb M.out.lt)
        replace Nn := Lib.hid (Nn.out.below hb Nn.out.lt)
        clear hb
        clear HBo
        obtain ⟨w120, hw120⟩ : ∃ x, x = (w119.alloc (.cells #[.int .u64 ty, .int .i64 128, .int .u32 rn, .int .u32 3, .int .u32 100, .int .u64 t, .int .i64 128, .int .u32 rt, .int .u32 3, .int .u32 100] 36)).alloc (.cells #[.bool true, .bool true] 37) := ⟨_, rfl⟩
        have V' := Lib.hid (show Blk w120 gV 31 #[.int .u64 t, .int .i64 128, .int .u32 rt, .int .u32 3, .int .u32 100] by rw [hw120]; exact ((V.out.alloc _).alloc _))
        have M' := Lib.hid (show Blk w120 gM 31 #[.int .u64 ty, .int .i64 128, .int .u32 rn, .int .u32 3, .int .u32 100] by rw [hw120]; exact ((M.out.alloc _).alloc _))
        have Nn' := Lib.hid (show Blk w120 gNn 31 #[.int .u64 ty, .int .i64 128, .int .u32 rn, .int .u32 3, .int .u32 100] by rw [hw120]; exact ((Nn.out.alloc _).alloc _))
        have Bo := Lib.hid (show Blk w120 w119.heap.size 36 #[.int .u64 ty, .int .i64 128, .int .u32 rn, .int .u32 3, .int .u32 100, .int .u64 t, .int .i64 128, .int .u32 rt, .int .u32 3, .int .u32 100] by rw [hw120]; exact ((Blk.new _ _ _).alloc _))
        have lt_V_Bo := Lib.hid (show gV < w119.heap.size from V.out.lt)
        have lt_M_Bo := Lib.hid (show gM < w119.heap.size from M.out.lt)
        have lt_Nn_Bo := Lib.hid (show gNn < w119.heap.size from Nn.out.lt)
        have ge_Bo := Lib.hid (show w.heap.size ≤ w119.heap.size from HB.out.size)
        have Rt := Lib.hid (show Blk w120 (w119.heap.size + 1) 37 #[.bool true, .bool true] by rw [hw120, show (w119.heap.size + 1) = ((w119.alloc (.cells #[.int .u64 ty, .int .i64 128, .int .u32 rn, .int .u32 3, .int .u32 100, .int .u64 t, .int .i64 128, .int .u32 rt, .int .u32 3, .int .u32 100] 36))).heap.size by simp [World.setCell]]; exact (Blk.new _ _ _))
        have lt_V_Rt := Lib.hid (show gV < (w119.heap.size + 1) from Nat.lt_of_lt_of_le V.out.lt (Nat.le_add_right _ _))
        have lt_M_Rt := Lib.hid (show gM < (w119.heap.size + 1) from Nat.lt_of_lt_of_le M.out.lt (Nat.le_add_right _ _))
        have lt_Nn_Rt := Lib.hid (show gNn < (w119.heap.size + 1) from Nat.lt_of_lt_of_le Nn.out.lt (Nat.le_add_right _ _))
        have lt_Bo_Rt := Lib.hid (show w119.heap.size < (w119.heap.size + 1) by omega)
        have ge_Rt := Lib.hid (show w.heap.size ≤ (w119.heap.size + 1) from Nat.le_trans HB.out.size (Nat.le_add_right _ _))
        have HB' := Lib.hid (show Below w.heap.size w w120 by rw [hw120]; have r0 := HB.out.alloc HB.out.size (.cells #[.int .u64 ty, .int .i64 128, .int .u32 rn, .int .u32 3, .int .u32 100, .int .u64 t, .int .i64 128, .int .u32 rt, .int .u32 3, .int .u32 100] 36); have r1 := r0.alloc r0.size (.cells #[.bool true, .bool true] 37); exact r1)
        replace V := V'; clear V'
        replace M := M'; clear M'
        replace Nn := Nn'; clear Nn'
        replace HB := HB'; clear HB'
        go_wp2_with fail
        rw [← hw120]
        clear hw120 
        generalize (w119.heap.size + 1) = gRt at *
        generalize w119.heap.size = gBo at *
        have cV_0 := V.out.cell 0
        have cV_1 := V.out.cell 1
        have cV_2 := V.out.cell 2
        have cV_3 := V.out.cell 3
        have cV_4 := V.out.cell 4
        have cM_0 := M.out.cell 0
        have cM_1 := M.out.cell 1
        have cM_2 := M.out.cell 2
        have cM_3 := M.out.cell 3
        have cM_4 := M.out.cell 4
        have cNn_0 := Nn.out.cell 0
        have cNn_1 := Nn.out.cell 1
        have cNn_2 := Nn.out.cell 2
        have cNn_3 := Nn.out.cell 3
        have cNn_4 := Nn.out.cell 4
        have cBo_0 := Bo.out.cell 0
        have cBo_1 := Bo.out.cell 1
        have cBo_2 := Bo.out.cell 2
        have cBo_3 := Bo.out.cell 3
        have cBo_4 := Bo.out.cell 4
        have cBo_5 := Bo.out.cell 5
        have cBo_6 := Bo.out.cell 6
        have cBo_7 := Bo.out.cell 7
        have cBo_8 := Bo.out.cell 8
        have cBo_9 := Bo.out.cell 9
        have cRt_0 := Rt.out.cell 0
        have cRt_1 := Rt.out.cell 1
        simp at cV_0 cV_1 cV_2 cV_3 cV_4 cM_0 cM_1 cM_2 cM_3 cM_4 cNn_0 cNn_1 cNn_2 cNn_3 cNn_4 cBo_0 cBo_1 cBo_2 cBo_3 cBo_4 cBo_5 cBo_6 cBo_7 cBo_8 cBo_9 cRt_0 cRt_1
        go_quiet ((go_at_call 17; exact Calls.quiet_of_same (HS1 _)))
        clear cV_0 cV_1 cV_2 cV_3 cV_4 cM_0 cM_1 cM_2 cM_3 cM_4 cNn_0 cNn_1 cNn_2 cNn_3 cNn_4 cBo_0 cBo_1 cBo_2 cBo_3 cBo_4 cBo_5 cBo_6 cBo_7 cBo_8 cBo_9 cRt_0 cRt_1
        replace V := Lib.hid (V.out.drewN nq)
        replace M := Lib.hid (M.out.drewN nq)
        replace Nn := Lib.hid (Nn.out.drewN nq)
        replace Bo := Lib.hid (Bo.out.drewN nq)
        replace Rt := Lib.hid (Rt.out.drewN nq)
        replace HB := Lib.hid (below_drewN HB.out nq)
        generalize w120.drewN nq = wq at *
        have cV_0 := V.out.cell 0
        have cV_1 := V.out.cell 1
        have cV_2 := V.out.cell 2
        have cV_3 := V.out.cell 3
        have cV_4 := V.out.cell 4
        have cM_0 := M.out.cell 0
        have cM_1 := M.out.cell 1
        have cM_2 := M.out.cell 2
        have cM_3 := M.out.cell 3
        have cM_4 := M.out.cell 4
        have cNn_0 := Nn.out.cell 0
        have cNn_1 := Nn.out.cell 1
        have cNn_2 := Nn.out.cell 2
        have cNn_3 := Nn.out.cell 3
        have cNn_4 := Nn.out.cell 4
        have cBo_0 := Bo.out.cell 0
        have cBo_1 := Bo.out.cell 1
        have cBo_2 := Bo.out.cell 2
        have cBo_3 := Bo.out.cell 3
        have cBo_4 := Bo.out.cell 4
        have cBo_5 := Bo.out.cell 5
        have cBo_6 := Bo.out.cell 6
        have cBo_7 := Bo.out.cell 7
        have cBo_8 := Bo.out.cell 8
        have cBo_9 := Bo.out.cell 9
        have cRt_0 := Rt.out.cell 0
        have cRt_1 := Rt.out.cell 1
        simp at cV_0 cV_1 cV_2 cV_3 cV_4 cM_0 cM_1 cM_2 cM_3 cM_4 cNn_0 cNn_1 cNn_2 cNn_3 cNn_4 cBo_0 cBo_1 cBo_2 cBo_3 cBo_4 cBo_5 cBo_6 cBo_7 cBo_8 cBo_9 cRt_0 cRt_1
        have hk3 := HK3.out
        have hk4 := HK4.out
        go_wp2_with fail
        go_quiet ((go_at_call 17; exact Calls.quiet_of_same (HS2 _)))
        clear hk3 hk4 cV_0 cV_1 cV_2 cV_3 cV_4 cM_0 cM_1 cM_2 cM_3 cM_4 cNn_0 cNn_1 cNn_2 cNn_3 cNn_4 cBo_0 cBo_1 cBo_2 cBo_3 cBo_4 cBo_5 cBo_6 cBo_7 cBo_8 cBo_9 cRt_0 cRt_1
        replace V := Lib.hid (V.out.drewN nq)
        replace M := Lib.hid (M.out.drewN nq)
        replace Nn := Lib.hid (Nn.out.drewN nq)
        replace Bo := Lib.hid (Bo.out.drewN nq)
        replace Rt := Lib.hid (Rt.out.drewN nq)
        replace HB := Lib.hid (below_drewN HB.out nq)
        generalize wq.drewN nq = wz at *
        have fzV_0 := V.out.frozen 0
        have fzV_1 := V.out.frozen 1
        have fzV_2 := V.out.frozen 2
        have fzV_3 := V.out.frozen 3
        have fzV_4 := V.out.frozen 4
        have lzM := M.out.lt
        have lzV := V.out.lt
        have dM_0 := M.out.cell 0
        have dM_1 := M.out.cell 1
        have dM_2 := M.out.cell 2
        have dM_3 := M.out.cell 3
        have dM_4 := M.out.cell 4
        have dV_0 := V.out.cell 0
        have dV_1 := V.out.cell 1
        have dV_2 := V.out.cell 2
        have dV_3 := V.out.cell 3
        have dV_4 := V.out.cell 4
        simp at dM_0 dM_1 dM_2 dM_3 dM_4 dV_0 dV_1 dV_2 dV_3 dV_4
        obtain ⟨w121, hw121⟩ : ∃ x, x = ((((wz.setCell ⟨gV, 0, none⟩ (.int .u64 ty)).setCell ⟨gV, 1, none⟩ (.int .i64 128)).setCell ⟨gV, 2, none⟩ (.int .u32 rn)).setCell ⟨gV, 3, none⟩ (.int .u32 3)).setCell ⟨gV, 4, none⟩ (.int .u32 100) := ⟨_, rfl⟩
        have V' := Lib.hid (show Blk w121 gV 31 #[.int .u64 ty, .int .i64 128, .int .u32 rn, .int .u32 3, .int .u32 100] by rw [hw121]; exact (((((V.out.set_ 0 (.int .u64 ty)).set_ 1 (.int .i64 128)).set_ 2 (.int .u32 rn)).set_ 3 (.int .u32 3)).set_ 4 (.int .u32 100)))
        have M' := Lib.hid (show Blk w121 gM 31 #[.int .u64 ty, .int .i64 128, .int .u32 rn, .int .u32 3, .int .u32 100] by rw [hw121]; exact (((((M.out.far (p := ⟨gV, 0, none⟩) (Nat.ne_of_gt lt_V_M.out) (.int .u64 ty)).far (p := ⟨gV, 1, none⟩) (Nat.ne_of_gt lt_V_M.out) (.int .i64 128)).far (p := ⟨gV, 2, none⟩) (Nat.ne_of_gt lt_V_M.out) (.int .u32 rn)).far (p := ⟨gV, 3, none⟩) (Nat.ne_of_gt lt_V_M.out) (.int .u32 3)).far (p := ⟨gV, 4, none⟩) (Nat.ne_of_gt lt_V_M.out) (.int .u32 100)))
        have Nn' := Lib.hid (show Blk w121 gNn 31 #[.int .u64 ty, .int .i64 128, .int .u32 rn, .int .u32 3, .int .u32 100] by rw [hw121]; exact (((((Nn.out.far (p := ⟨gV, 0, none⟩) (Nat.ne_of_gt lt_V_Nn.out) (.int .u64 ty)).far (p := ⟨gV, 1, none⟩) (Nat.ne_of_gt lt_V_Nn.out) (.int .i64 128)).far (p := ⟨gV, 2, none⟩) (Nat.ne_of_gt lt_V_Nn.out) (.int .u32 rn)).far (p := ⟨gV, 3, none⟩) (Nat.ne_of_gt lt_V_Nn.out) (.int .u32 3)).far (p := ⟨gV, 4, none⟩) (Nat.ne_of_gt lt_V_Nn.out) (.int .u32 100)))
        have Bo' := Lib.hid (show Blk w121 gBo 36 #[.int .u64 ty, .int .i64 128, .int .u32 rn, .int .u32 3, .int .u32 100, .int .u64 t, .int .i64 128, .int .u32 rt, .int .u32 3, .int .u32 100] by rw [hw121]; exact (((((Bo.out.far (p := ⟨gV, 0, none⟩) (Nat.ne_of_gt lt_V_Bo.out) (.int .u64 ty)).far (p := ⟨gV, 1, none⟩) (Nat.ne_of_gt lt_V_Bo.out) (.int .i64 128)).far (p := ⟨gV, 2, none⟩) (Nat.ne_of_gt lt_V_Bo.out) (.int .u32 rn)).far (p := ⟨gV, 3, none⟩) (Nat.ne_of_gt lt_V_Bo.out) (.int .u32 3)).far (p := ⟨gV, 4, none⟩) (Nat.ne_of_gt lt_V_Bo.out) (.int .u32 100)))
        have Rt' := Lib.hid (show Blk w121 gRt 37 #[.bool true, .bool true] by rw [hw121]; exact (((((Rt.out.far (p := ⟨gV, 0, none⟩) (Nat.ne_of_gt lt_V_Rt.out) (.int .u64 ty)).far (p := ⟨gV, 1, none⟩) (Nat.ne_of_gt lt_V_Rt.out) (.int .i64 128)).far (p := ⟨gV, 2, none⟩) (Nat.ne_of_gt lt_V_Rt.out) (.int .u32 rn)).far (p := ⟨gV, 3, none⟩) (Nat.ne_of_gt lt_V_Rt.out) (.int .u32 3)).far (p := ⟨gV, 4, none⟩) (Nat.ne_of_gt lt_V_Rt.out) (.int .u32 100)))
        have HB' := Lib.hid (show Below w.heap.size w w121 by rw [hw121]; have q0 := HB.out.setCell (p := ⟨gV, 0, none⟩) ge_V.out (.int .u64 ty); have q1 := q0.setCell (p := ⟨gV, 1, none⟩) ge_V.out (.int .i64 128); have q2 := q1.setCell (p := ⟨gV, 2, none⟩) ge_V.out (.int .u32 rn); have q3 := q2.setCell (p := ⟨gV, 3, none⟩) ge_V.out (.int .u32 3); have q4 := q3.setCell (p := ⟨gV, 4, none⟩) ge_V.out (.int .u32 100); exact q4)
        replace V := V'; clear V'
        replace M := M'; clear M'
        replace Nn := Nn'; clear Nn'
        replace Bo := Bo'; clear Bo'
        replace Rt := Rt'; clear Rt'
        replace HB := HB'; clear HB'
        have cM_0 := M.out.cell 0
        have cM_1 := M.out.cell 1
        have cM_2 := M.out.cell 2
        have cM_3 := M.out.cell 3
        have cM_4 := M.out.cell 4
        have cV_0 := V.out.cell 0
        have cV_1 := V.out.cell 1
        have cV_2 := V.out.cell 2
        have cV_3 := V.out.cell 3
        have cV_4 := V.out.cell 4
        rw [hw121] at cM_0 cM_1 cM_2 cM_3 cM_4 cV_0 cV_1 cV_2 cV_3 cV_4
        simp at cM_0 cM_1 cM_2 cM_3 cM_4 cV_0 cV_1 cV_2 cV_3 cV_4
        go_wp2_with fail
        rw [← hw121]
        clear hw121 fzV_0 fzV_1 fzV_2 fzV_3 fzV_4 lzM lzV dM_0 dM_1 dM_2 dM_3 dM_4 dV_0 dV_1 dV_2 dV_3 dV_4 cM_0 cM_1 cM_2 cM_3 cM_4 cV_0 cV_1 cV_2 cV_3 cV_4
        go_roundw
        case rel =>
          first
            | exact ⟨k + 1, N, ty, 128, rn, 3, 100, by omega, by go_num, rfl, HI'.out, V, HB⟩
            | ((repeat apply Exists.intro); exact ⟨⟨k + 1, N, ty, 128, rn, 3, 100, by omega, by go_num, rfl, HI'.out, V, HB⟩, rfl⟩)
        case measure => simp [intOf]; omega
      · skip
        obtain ⟨Pb, hPb⟩ : ∃ Pb, Pb = reps ⟨#[0]⟩ 128 := ⟨_, rfl⟩
        rw [← hPb] at him hPs
        rw [if_neg (by omega)] at him
        have hps : ty % 2 = 1 := by rw [hty]; exact hp
        obtain ⟨b1, b2, b3⟩ := blk_two 128 Pb B hPs hBs
        obtain ⟨N, hN⟩ : ∃ N, N = (Pb ++ B) := ⟨_, rfl⟩
        rw [← hN] at b1 b2 b3
        have HN : ∀ w : World, Calls Try.prog 15 #[.int .i64 128, .string N] w fun e w' => e = .returned (.tuple #[.agg #[.int .u64 ty, .int .i64 128, .int .u32 rn, .int .u32 3, .int .u32 100], .int .i64 0]) ∧ Below w.heap.size w w' := fun w => mnew_b 128 N 0 0 0 0 0 ty 128 rn 3 100 w hg (metaAt_bad 128 0 N (by rw [b1, hPb]; exact zero_bad 0)) (metaAt_block 128 1 N ty rn 3 100 hmy hps.symm (by rw [b3]; decide) (by rw [b2, hB])) (by rw [b3]; decide)
        have HBo : ∀ w : World, Calls Try.prog 14 #[.int .i64 128, .string N] w fun e w' => e = .returned (.tuple #[.agg #[.int .u64 0, .int .i64 0, .int .u32 0, .int .u32 0, .int .u32 0, .int .u64 ty, .int .i64 128, .int .u32 rn, .int .u32 3, .int .u32 100], .agg #[.bool false, .bool true]]) ∧ Below w.heap.size w w' := fun w => mboth_any 128 N 0 0 0 0 0 false ty 128 rn 3 100 true w (metaAt_bad 128 0 N (by rw [b1, hPb]; exact zero_bad 0)) (metaAt_block 128 1 N ty rn 3 100 hmy hps.symm (by rw [b3]; decide) (by rw [b2, hB])) (by rw [b3]; decide)
        have HS1 : ∀ w : World, Calls Try.prog 17 #[.int .u64 ty] w fun e w' => e = .returned (.int .u32 1) ∧ w' = w := fun w => slot_is ty 1 w hps.symm
        have HS2 : ∀ w : World, Calls Try.prog 17 #[.int .u64 0] w fun e w' => e = .returned (.int .u32 0) ∧ w' = w := fun w => slot_is 0 0 w (by decide)
        have hk3 : decide ((k : Int) > 0) = false := by simp; omega
        have hk4 : decide (0 < k) = false := by simp; omega
        have hcat : im.extract 0 128 ++ B = N := by
          rw [hN, him]
          rw [ext_lo Pb O hPs]
        have hw1 : IntKind.i64.wrap 128 = 128 := by decide
        have hw2 : IntKind.i64.wrap 256 = 256 := by decide
        have HInv' : TInv tx (k + 1) N ty 128 rn 3 100 := by
          refine ⟨Pb, B, hPs, hBs, ?_, .inr ⟨by omega, by omega, rfl, rfl, rfl, hmy, hB⟩⟩
          rw [if_pos (by omega)]
          exact hN
        have HI' := Lib.hid HInv'
        have HK3 := Lib.hid hk3
        have HK4 := Lib.hid hk4
        have HC := Lib.hid hcat
        clear hk3 hk4 HInv' hcat him hPs hOs hN b1 b2 b3 hmy hB hPb hp hps hk00 hcx hx hxb hty hrn hg htx hlen
        
        go_wp2_with fail
        refine (HO1 _).mono ?_
        rintro e w122 ⟨rfl, hb⟩
        replace HB := Lib.hid (HB.out.trans (hb.mono HB.out.size))
        replace V := Lib.hid (V.out.below hb V.out.lt)
        clear hb
        clear HO1
        have x1 := cell_in HX.out HB.out habl
        have x0 := cell_in HX.out (HB.out.alloc HB.out.size (.cells #[.int .u64 ty, .int .i64 128, .int .u32 2, .int .u32 3, .int .u32 100] 31)) habl
        have lzV := V.out.lt
        have dV_0 := V.out.cell 0
        have dV_1 := V.out.cell 1
        have dV_2 := V.out.cell 2
        have dV_3 := V.out.cell 3
        have dV_4 := V.out.cell 4
        simp at dV_0 dV_1 dV_2 dV_3 dV_4
        obtain ⟨w123, hw123⟩ : ∃ x, x = w122.alloc (.cells #[.int .u64 ty, .int .i64 128, .int .u32 rn, .int .u32 3, .int .u32 100] 31) := ⟨_, rfl⟩
        have V' := Lib.hid (show Blk w123 gV 31 #[.int .u64 0, .int .i64 0, .int .u32 0, .int .u32 0, .int .u32 0] by rw [hw123]; exact (V.out.alloc _))
        have M := Lib.hid (show Blk w123 w122.heap.size 31 #[.int .u64 ty, .int .i64 128, .int .u32 rn, .int .u32 3, .int .u32 100] by rw [hw123]; exact (Blk.new _ _ _))
        have lt_V_M := Lib.hid (show gV < w122.heap.size from V.out.lt)
        have ge_M := Lib.hid (show w.heap.size ≤ w122.heap.size from HB.out.size)
        have HB' := Lib.hid (show Below w.heap.size w w123 by rw [hw123]; have r0 := HB.out.alloc HB.out.size (.cells #[.int .u64 ty, .int .i64 128, .int .u32 rn, .int .u32 3, .int .u32 100] 31); exact r0)
        replace V := V'; clear V'
        replace HB := HB'; clear HB'
        have cV_0 := V.out.cell 0
        have cV_1 := V.out.cell 1
        have cV_2 := V.out.cell 2
        have cV_3 := V.out.cell 3
        have cV_4 := V.out.cell 4
        have cM_0 := M.out.cell 0
        have cM_1 := M.out.cell 1
        have cM_2 := M.out.cell 2
        have cM_3 := M.out.cell 3
        have cM_4 := M.out.cell 4
        rw [hw123] at cV_0 cV_1 cV_2 cV_3 cV_4 cM_0 cM_1 cM_2 cM_3 cM_4
        simp at cV_0 cV_1 cV_2 cV_3 cV_4 cM_0 cM_1 cM_2 cM_3 cM_4
        have x2 := cell_in HX.out HB.out habl
        rw [hw123] at x2
        go_wp2_with fail
        rw [← hw123]
        clear hw123 lzV dV_0 dV_1 dV_2 dV_3 dV_4 cV_0 cV_1 cV_2 cV_3 cV_4 cM_0 cM_1 cM_2 cM_3 cM_4
        generalize w122.heap.size = gM at *
        clear x0 x1 x2 HX hrn1 hrn2 hrn3 hty1 hty2 hty3
        refine (HS1 _).mono ?_
        rintro e w124 ⟨rfl, rfl⟩
        have cV_0 := V.out.cell 0
        have cV_1 := V.out.cell 1
        have cV_2 := V.out.cell 2
        have cV_3 := V.out.cell 3
        have cV_4 := V.out.cell 4
        have cM_0 := M.out.cell 0
        have cM_1 := M.out.cell 1
        have cM_2 := M.out.cell 2
        have cM_3 := M.out.cell 3
        have cM_4 := M.out.cell 4
        simp at cV_0 cV_1 cV_2 cV_3 cV_4 cM_0 cM_1 cM_2 cM_3 cM_4
        go_wp2_with fail
        refine (HS2 _).mono ?_
        rintro e w125 ⟨rfl, rfl⟩
        go_wp2_with fail
        refine (HS1 _).mono ?_
        rintro e w126 ⟨rfl, rfl⟩
        go_wp2_with fail
        clear cV_0 cV_1 cV_2 cV_3 cV_4 cM_0 cM_1 cM_2 cM_3 cM_4
        replace V := Lib.hid V.out.drew
        replace M := Lib.hid M.out.drew
        replace HB := Lib.hid HB.out.drew
        go_region_held3 (fun w' => w'.cell? ⟨gM, 0, none⟩ = some (.int .u64 ty) ∧ w'.cell? ⟨gM, 1, none⟩ = some (.int .i64 128) ∧ w'.cell? ⟨gM, 2, none⟩ = some (.int .u32 rn) ∧ w'.cell? ⟨gM, 3, none⟩ = some (.int .u32 3) ∧ w'.cell? ⟨gM, 4, none⟩ = some (.int .u32 100)) (exact meta_cells M.out)
          (first
          | (go_at_call 13
             with_reducible refine (HK _).mono ?_
             rintro e wb ⟨rfl, hb⟩
             replace HB := Lib.hid (HB.out.trans (hb.mono HB.out.size))
             replace V := Lib.hid (V.out.below hb V.out.lt)
             replace M := Lib.hid (M.out.below hb M.out.lt)
             clear hb))
        rw [HC.out]
        clear HK hw1 hw2 HC
        go_wp2_with fail
        refine (HN _).mono ?_
        rintro e w127 ⟨rfl, hb⟩
        replace HB := Lib.hid (HB.out.trans (hb.mono HB.out.size))
        replace V := Lib.hid (V.out.below hb V.out.lt)
        replace M := Lib.hid (M.out.below hb M.out.lt)
        clear hb
        clear HN
        obtain ⟨w128, hw128⟩ : ∃ x, x = w127.alloc (.cells #[.int .u64 ty, .int .i64 128, .int .u32 rn, .int .u32 3, .int .u32 100] 31) := ⟨_, rfl⟩
        have V' := Lib.hid (show Blk w128 gV 31 #[.int .u64 0, .int .i64 0, .int .u32 0, .int .u32 0, .int .u32 0] by rw [hw128]; exact (V.out.alloc _))
        have M' := Lib.hid (show Blk w128 gM 31 #[.int .u64 ty, .int .i64 128, .int .u32 rn, .int .u32 3, .int .u32 100] by rw [hw128]; exact (M.out.alloc _))
        have Nn := Lib.hid (show Blk w128 w127.heap.size 31 #[.int .u64 ty, .int .i64 128, .int .u32 rn, .int .u32 3, .int .u32 100] by rw [hw128]; exact (Blk.new _ _ _))
        have lt_V_Nn := Lib.hid (show gV < w127.heap.size from V.out.lt)
        have lt_M_Nn := Lib.hid (show gM < w127.heap.size from M.out.lt)
        have ge_Nn := Lib.hid (show w.heap.size ≤ w127.heap.size from HB.out.size)
        have HB' := Lib.hid (show Below w.heap.size w w128 by rw [hw128]; have r0 := HB.out.alloc HB.out.size (.cells #[.int .u64 ty, .int .i64 128, .int .u32 rn, .int .u32 3, .int .u32 100] 31); exact r0)
        replace V := V'; clear V'
        replace M := M'; clear M'
        replace HB := HB'; clear HB'
        go_wp2_with fail
        rw [← hw128]
        clear hw128 
        generalize w127.heap.size = gNn at *
        refine (HBo _).mono ?_
        rintro e w129 ⟨rfl, hb⟩
        replace HB := Lib.hid (HB.out.trans (hb.mono HB.out.size))
        replace V := Lib.hid (V.out.below hb V.out.lt)
        replace M := Lib.hid (M.out.below hb M.out.lt)
        replace Nn := Lib.hid (Nn.out.below hb Nn.out.lt)
        clear hb
        clear HBo
        obtain ⟨w130, hw130⟩ : ∃ x, x = (w129.alloc (.cells #[.int .u64 0, .int .i64 0, .int .u32 0, .int .u32 0, .int .u32 0, .int .u64 ty, .int .i64 128, .int .u32 rn, .int .u32 3, .int .u32 100] 36)).alloc (.cells #[.bool false, .bool true] 37) := ⟨_, rfl⟩
        have V' := Lib.hid (show Blk w130 gV 31 #[.int .u64 0, .int .i64 0, .int .u32 0, .int .u32 0, .int .u32 0] by rw [hw130]; exact ((V.out.alloc _).alloc _))
        have M' := Lib.hid (show Blk w130 gM 31 #[.int .u64 ty, .int .i64 128, .int .u32 rn, .int .u32 3, .int .u32 100] by rw [hw130]; exact ((M.out.alloc _).alloc _))
        have Nn' := Lib.hid (show Blk w130 gNn 31 #[.int .u64 ty, .int .i64 128, .int .u32 rn, .int .u32 3, .int .u32 100] by rw [hw130]; exact ((Nn.out.alloc _).alloc _))
        have Bo := Lib.hid (show Blk w130 w129.heap.size 36 #[.int .u64 0, .int .i64 0, .int .u32 0, .int .u32 0, .int .u32 0, .int .u64 ty, .int .i64 128, .int .u32 rn, .int .u32 3, .int .u32 100] by rw [hw130]; exact ((Blk.new _ _ _).alloc _))
        have lt_V_Bo := Lib.hid (show gV < w129.heap.size from V.out.lt)
        have lt_M_Bo := Lib.hid (show gM < w129.heap.size from M.out.lt)
        have lt_Nn_Bo := Lib.hid (show gNn < w129.heap.size from Nn.out.lt)
        have ge_Bo := Lib.hid (show w.heap.size ≤ w129.heap.size from HB.out.size)
        have Rt := Lib.hid (show Blk w130 (w129.heap.size + 1) 37 #[.bool false, .bool true] by rw [hw130, show (w129.heap.size + 1) = ((w129.alloc (.cells #[.int .u64 0, .int .i64 0, .int .u32 0, .int .u32 0, .int .u32 0, .int .u64 ty, .int .i64 128, .int .u32 rn, .int .u32 3, .int .u32 100] 36))).heap.size by simp [World.setCell]]; exact (Blk.new _ _ _))
        have lt_V_Rt := Lib.hid (show gV < (w129.heap.size + 1) from Nat.lt_of_lt_of_le V.out.lt (Nat.le_add_right _ _))
        have lt_M_Rt := Lib.hid (show gM < (w129.heap.size + 1) from Nat.lt_of_lt_of_le M.out.lt (Nat.le_add_right _ _))
        have lt_Nn_Rt := Lib.hid (show gNn < (w129.heap.size + 1) from Nat.lt_of_lt_of_le Nn.out.lt (Nat.le_add_right _ _))
        have lt_Bo_Rt := Lib.hid (show w129.heap.size < (w129.heap.size + 1) by omega)
        have ge_Rt := Lib.hid (show w.heap.size ≤ (w129.heap.size + 1) from Nat.le_trans HB.out.size (Nat.le_add_right _ _))
        have HB' := Lib.hid (show Below w.heap.size w w130 by rw [hw130]; have r0 := HB.out.alloc HB.out.size (.cells #[.int .u64 0, .int .i64 0, .int .u32 0, .int .u32 0, .int .u32 0, .int .u64 ty, .int .i64 128, .int .u32 rn, .int .u32 3, .int .u32 100] 36); have r1 := r0.alloc r0.size (.cells #[.bool false, .bool true] 37); exact r1)
        replace V := V'; clear V'
        replace M := M'; clear M'
        replace Nn := Nn'; clear Nn'
        replace HB := HB'; clear HB'
        go_wp2_with fail
        rw [← hw130]
        clear hw130 
        generalize (w129.heap.size + 1) = gRt at *
        generalize w129.heap.size = gBo at *
        have cV_0 := V.out.cell 0
        have cV_1 := V.out.cell 1
        have cV_2 := V.out.cell 2
        have cV_3 := V.out.cell 3
        have cV_4 := V.out.cell 4
        have cM_0 := M.out.cell 0
        have cM_1 := M.out.cell 1
        have cM_2 := M.out.cell 2
        have cM_3 := M.out.cell 3
        have cM_4 := M.out.cell 4
        have cNn_0 := Nn.out.cell 0
        have cNn_1 := Nn.out.cell 1
        have cNn_2 := Nn.out.cell 2
        have cNn_3 := Nn.out.cell 3
        have cNn_4 := Nn.out.cell 4
        have cBo_0 := Bo.out.cell 0
        have cBo_1 := Bo.out.cell 1
        have cBo_2 := Bo.out.cell 2
        have cBo_3 := Bo.out.cell 3
        have cBo_4 := Bo.out.cell 4
        have cBo_5 := Bo.out.cell 5
        have cBo_6 := Bo.out.cell 6
        have cBo_7 := Bo.out.cell 7
        have cBo_8 := Bo.out.cell 8
        have cBo_9 := Bo.out.cell 9
        have cRt_0 := Rt.out.cell 0
        have cRt_1 := Rt.out.cell 1
        simp at cV_0 cV_1 cV_2 cV_3 cV_4 cM_0 cM_1 cM_2 cM_3 cM_4 cNn_0 cNn_1 cNn_2 cNn_3 cNn_4 cBo_0 cBo_1 cBo_2 cBo_3 cBo_4 cBo_5 cBo_6 cBo_7 cBo_8 cBo_9 cRt_0 cRt_1
        go_quiet ((go_at_call 17; exact Calls.quiet_of_same (HS1 _)))
        clear cV_0 cV_1 cV_2 cV_3 cV_4 cM_0 cM_1 cM_2 cM_3 cM_4 cNn_0 cNn_1 cNn_2 cNn_3 cNn_4 cBo_0 cBo_1 cBo_2 cBo_3 cBo_4 cBo_5 cBo_6 cBo_7 cBo_8 cBo_9 cRt_0 cRt_1
        replace V := Lib.hid (V.out.drewN nq)
        replace M := Lib.hid (M.out.drewN nq)
        replace Nn := Lib.hid (Nn.out.drewN nq)
        replace Bo := Lib.hid (Bo.out.drewN nq)
        replace Rt := Lib.hid (Rt.out.drewN nq)
        replace HB := Lib.hid (below_drewN HB.out nq)
        generalize w130.drewN nq = wq at *
        have cV_0 := V.out.cell 0
        have cV_1 := V.out.cell 1
        have cV_2 := V.out.cell 2
        have cV_3 := V.out.cell 3
        have cV_4 := V.out.cell 4
        have cM_0 := M.out.cell 0
        have cM_1 := M.out.cell 1
        have cM_2 := M.out.cell 2
        have cM_3 := M.out.cell 3
        have cM_4 := M.out.cell 4
        have cNn_0 := Nn.out.cell 0
        have cNn_1 := Nn.out.cell 1
        have cNn_2 := Nn.out.cell 2
        have cNn_3 := Nn.out.cell 3
        have cNn_4 := Nn.out.cell 4
        have cBo_0 := Bo.out.cell 0
        have cBo_1 := Bo.out.cell 1
        have cBo_2 := Bo.out.cell 2
        have cBo_3 := Bo.out.cell 3
        have cBo_4 := Bo.out.cell 4
        have cBo_5 := Bo.out.cell 5
        have cBo_6 := Bo.out.cell 6
        have cBo_7 := Bo.out.cell 7
        have cBo_8 := Bo.out.cell 8
        have cBo_9 := Bo.out.cell 9
        have cRt_0 := Rt.out.cell 0
        have cRt_1 := Rt.out.cell 1
        simp at cV_0 cV_1 cV_2 cV_3 cV_4 cM_0 cM_1 cM_2 cM_3 cM_4 cNn_0 cNn_1 cNn_2 cNn_3 cNn_4 cBo_0 cBo_1 cBo_2 cBo_3 cBo_4 cBo_5 cBo_6 cBo_7 cBo_8 cBo_9 cRt_0 cRt_1
        have hk3 := HK3.out
        have hk4 := HK4.out
        go_wp2_with fail
        go_quiet (fail)
        clear hk3 hk4 cV_0 cV_1 cV_2 cV_3 cV_4 cM_0 cM_1 cM_2 cM_3 cM_4 cNn_0 cNn_1 cNn_2 cNn_3 cNn_4 cBo_0 cBo_1 cBo_2 cBo_3 cBo_4 cBo_5 cBo_6 cBo_7 cBo_8 cBo_9 cRt_0 cRt_1
        replace V := Lib.hid (V.out.drewN nq)
        replace M := Lib.hid (M.out.drewN nq)
        replace Nn := Lib.hid (Nn.out.drewN nq)
        replace Bo := Lib.hid (Bo.out.drewN nq)
        replace Rt := Lib.hid (Rt.out.drewN nq)
        replace HB := Lib.hid (below_drewN HB.out nq)
        generalize wq.drewN nq = wz at *
        have fzV_0 := V.out.frozen 0
        have fzV_1 := V.out.frozen 1
        have fzV_2 := V.out.frozen 2
        have fzV_3 := V.out.frozen 3
        have fzV_4 := V.out.frozen 4
        have lzM := M.out.lt
        have lzV := V.out.lt
        have dM_0 := M.out.cell 0
        have dM_1 := M.out.cell 1
        have dM_2 := M.out.cell 2
        have dM_3 := M.out.cell 3
        have dM_4 := M.out.cell 4
        have dV_0 := V.out.cell 0
        have dV_1 := V.out.cell 1
        have dV_2 := V.out.cell 2
        have dV_3 := V.out.cell 3
        have dV_4 := V.out.cell 4
        simp at dM_0 dM_1 dM_2 dM_3 dM_4 dV_0 dV_1 dV_2 dV_3 dV_4
        obtain ⟨w131, hw131⟩ : ∃ x, x = ((((wz.setCell ⟨gV, 0, none⟩ (.int .u64 ty)).setCell ⟨gV, 1, none⟩ (.int .i64 128)).setCell ⟨gV, 2, none⟩ (.int .u32 rn)).setCell ⟨gV, 3, none⟩ (.int .u32 3)).setCell ⟨gV, 4, none⟩ (.int .u32 100) := ⟨_, rfl⟩
        have V' := Lib.hid (show Blk w131 gV 31 #[.int .u64 ty, .int .i64 128, .int .u32 rn, .int .u32 3, .int .u32 100] by rw [hw131]; exact (((((V.out.set_ 0 (.int .u64 ty)).set_ 1 (.int .i64 128)).set_ 2 (.int .u32 rn)).set_ 3 (.int .u32 3)).set_ 4 (.int .u32 100)))
        have M' := Lib.hid (show Blk w131 gM 31 #[.int .u64 ty, .int .i64 128, .int .u32 rn, .int .u32 3, .int .u32 100] by rw [hw131]; exact (((((M.out.far (p := ⟨gV, 0, none⟩) (Nat.ne_of_gt lt_V_M.out) (.int .u64 ty)).far (p := ⟨gV, 1, none⟩) (Nat.ne_of_gt lt_V_M.out) (.int .i64 128)).far (p := ⟨gV, 2, none⟩) (Nat.ne_of_gt lt_V_M.out) (.int .u32 rn)).far (p := ⟨gV, 3, none⟩) (Nat.ne_of_gt lt_V_M.out) (.int .u32 3)).far (p := ⟨gV, 4, none⟩) (Nat.ne_of_gt lt_V_M.out) (.int .u32 100)))
        have Nn' := Lib.hid (show Blk w131 gNn 31 #[.int .u64 ty, .int .i64 128, .int .u32 rn, .int .u32 3, .int .u32 100] by rw [hw131]; exact (((((Nn.out.far (p := ⟨gV, 0, none⟩) (Nat.ne_of_gt lt_V_Nn.out) (.int .u64 ty)).far (p := ⟨gV, 1, none⟩) (Nat.ne_of_gt lt_V_Nn.out) (.int .i64 128)).far (p := ⟨gV, 2, none⟩) (Nat.ne_of_gt lt_V_Nn.out) (.int .u32 rn)).far (p := ⟨gV, 3, none⟩) (Nat.ne_of_gt lt_V_Nn.out) (.int .u32 3)).far (p := ⟨gV, 4, none⟩) (Nat.ne_of_gt lt_V_Nn.out) (.int .u32 100)))
        have Bo' := Lib.hid (show Blk w131 gBo 36 #[.int .u64 0, .int .i64 0, .int .u32 0, .int .u32 0, .int .u32 0, .int .u64 ty, .int .i64 128, .int .u32 rn, .int .u32 3, .int .u32 100] by rw [hw131]; exact (((((Bo.out.far (p := ⟨gV, 0, none⟩) (Nat.ne_of_gt lt_V_Bo.out) (.int .u64 ty)).far (p := ⟨gV, 1, none⟩) (Nat.ne_of_gt lt_V_Bo.out) (.int .i64 128)).far (p := ⟨gV, 2, none⟩) (Nat.ne_of_gt lt_V_Bo.out) (.int .u32 rn)).far (p := ⟨gV, 3, none⟩) (Nat.ne_of_gt lt_V_Bo.out) (.int .u32 3)).far (p := ⟨gV, 4, none⟩) (Nat.ne_of_gt lt_V_Bo.out) (.int .u32 100)))
        have Rt' := Lib.hid (show Blk w131 gRt 37 #[.bool false, .bool true] by rw [hw131]; exact (((((Rt.out.far (p := ⟨gV, 0, none⟩) (Nat.ne_of_gt lt_V_Rt.out) (.int .u64 ty)).far (p := ⟨gV, 1, none⟩) (Nat.ne_of_gt lt_V_Rt.out) (.int .i64 128)).far (p := ⟨gV, 2, none⟩) (Nat.ne_of_gt lt_V_Rt.out) (.int .u32 rn)).far (p := ⟨gV, 3, none⟩) (Nat.ne_of_gt lt_V_Rt.out) (.int .u32 3)).far (p := ⟨gV, 4, none⟩) (Nat.ne_of_gt lt_V_Rt.out) (.int .u32 100)))
        have HB' := Lib.hid (show Below w.heap.size w w131 by rw [hw131]; have q0 := HB.out.setCell (p := ⟨gV, 0, none⟩) ge_V.out (.int .u64 ty); have q1 := q0.setCell (p := ⟨gV, 1, none⟩) ge_V.out (.int .i64 128); have q2 := q1.setCell (p := ⟨gV, 2, none⟩) ge_V.out (.int .u32 rn); have q3 := q2.setCell (p := ⟨gV, 3, none⟩) ge_V.out (.int .u32 3); have q4 := q3.setCell (p := ⟨gV, 4, none⟩) ge_V.out (.int .u32 100); exact q4)
        replace V := V'; clear V'
        replace M := M'; clear M'
        replace Nn := Nn'; clear Nn'
        replace Bo := Bo'; clear Bo'
        replace Rt := Rt'; clear Rt'
        replace HB := HB'; clear HB'
        have cM_0 := M.out.cell 0
        have cM_1 := M.out.cell 1
        have cM_2 := M.out.cell 2
        have cM_3 := M.out.cell 3
        have cM_4 := M.out.cell 4
        have cV_0 := V.out.cell 0
        have cV_1 := V.out.cell 1
        have cV_2 := V.out.cell 2
        have cV_3 := V.out.cell 3
        have cV_4 := V.out.cell 4
        rw [hw131] at cM_0 cM_1 cM_2 cM_3 cM_4 cV_0 cV_1 cV_2 cV_3 cV_4
        simp at cM_0 cM_1 cM_2 cM_3 cM_4 cV_0 cV_1 cV_2 cV_3 cV_4
        go_wp2_with fail
        rw [← hw131]
        clear hw131 fzV_0 fzV_1 fzV_2 fzV_3 fzV_4 lzM lzV dM_0 dM_1 dM_2 dM_3 dM_4 dV_0 dV_1 dV_2 dV_3 dV_4 cM_0 cM_1 cM_2 cM_3 cM_4 cV_0 cV_1 cV_2 cV_3 cV_4
        go_roundw
        case rel =>
          first
            | exact ⟨k + 1, N, ty, 128, rn, 3, 100, by omega, by go_num, rfl, HI'.out, V, HB⟩
            | ((repeat apply Exists.intro); exact ⟨⟨k + 1, N, ty, 128, rn, 3, 100, by omega, by go_num, rfl, HI'.out, V, HB⟩, rfl⟩)
        case measure => simp [intOf]; omega
      · skip
        rw [if_neg (by omega)] at him
        have hps : ty % 2 = 1 := by rw [hty]; exact hp
        obtain ⟨b1, b2, b3⟩ := blk_two 128 Pb B hPs hBs
        obtain ⟨N, hN⟩ : ∃ N, N = (Pb ++ B) := ⟨_, rfl⟩
        rw [← hN] at b1 b2 b3
        have hqs : t % 2 = 0 := by omega
        have HN : ∀ w : World, Calls Try.prog 15 #[.int .i64 128, .string N] w fun e w' => e = .returned (.tuple #[.agg #[.int .u64 ty, .int .i64 128, .int .u32 rn, .int .u32 3, .int .u32 100], .int .i64 0]) ∧ Below w.heap.size w w' := fun w => mnew_ab 128 N t 128 rt 3 100 ty 128 rn 3 100 w hg (metaAt_block 128 0 N t rt 3 100 hmt hqs.symm (by rw [b3]; decide) (by rw [b1, hPb])) (metaAt_block 128 1 N ty rn 3 100 hmy hps.symm (by rw [b3]; decide) (by rw [b2, hB])) (by rw [b3]; decide) (by omega)
        have HBo : ∀ w : World, Calls Try.prog 14 #[.int .i64 128, .string N] w fun e w' => e = .returned (.tuple #[.agg #[.int .u64 t, .int .i64 128, .int .u32 rt, .int .u32 3, .int .u32 100, .int .u64 ty, .int .i64 128, .int .u32 rn, .int .u32 3, .int .u32 100], .agg #[.bool true, .bool true]]) ∧ Below w.heap.size w w' := fun w => mboth_any 128 N t 128 rt 3 100 true ty 128 rn 3 100 true w (metaAt_block 128 0 N t rt 3 100 hmt hqs.symm (by rw [b3]; decide) (by rw [b1, hPb])) (metaAt_block 128 1 N ty rn 3 100 hmy hps.symm (by rw [b3]; decide) (by rw [b2, hB])) (by rw [b3]; decide)
        have HS1 : ∀ w : World, Calls Try.prog 17 #[.int .u64 ty] w fun e w' => e = .returned (.int .u32 1) ∧ w' = w := fun w => slot_is ty 1 w hps.symm
        have HS2 : ∀ w : World, Calls Try.prog 17 #[.int .u64 t] w fun e w' => e = .returned (.int .u32 0) ∧ w' = w := fun w => slot_is t 0 w (by omega)
        have hwm := fun w => meta_neq t 128 rt 3 100 w
        have hk3 : decide ((k : Int) > 0) = true := by simp; omega
        have hk4 : decide (0 < k) = true := by simp; omega
        have hcat : im.extract 0 128 ++ B = N := by
          rw [hN, him]
          rw [ext_lo Pb O hPs]
        have hw1 : IntKind.i64.wrap 128 = 128 := by decide
        have hw2 : IntKind.i64.wrap 256 = 256 := by decide
        have HInv' : TInv tx (k + 1) N ty 128 rn 3 100 := by
          refine ⟨Pb, B, hPs, hBs, ?_, .inr ⟨by omega, by omega, rfl, rfl, rfl, hmy, hB⟩⟩
          rw [if_pos (by omega)]
          exact hN
        have HI' := Lib.hid HInv'
        have HK3 := Lib.hid hk3
        have HK4 := Lib.hid hk4
        have HC := Lib.hid hcat
        clear hk3 hk4 HInv' hcat him hPs hOs hN b1 b2 b3 hmy hB hPb hp hps hk00 hcx hx hxb hty hrn hg htx hlen hmt htt hqs
        
        go_wp2_with fail
        refine (HO1 _).mono ?_
        rintro e w132 ⟨rfl, hb⟩
        replace HB := Lib.hid (HB.out.trans (hb.mono HB.out.size))
        replace V := Lib.hid (V.out.below hb V.out.lt)
        clear hb
        clear HO1
        have x1 := cell_in HX.out HB.out habl
        have x0 := cell_in HX.out (HB.out.alloc HB.out.size (.cells #[.int .u64 ty, .int .i64 128, .int .u32 2, .int .u32 3, .int .u32 100] 31)) habl
        have lzV := V.out.lt
        have dV_0 := V.out.cell 0
        have dV_1 := V.out.cell 1
        have dV_2 := V.out.cell 2
        have dV_3 := V.out.cell 3
        have dV_4 := V.out.cell 4
        simp at dV_0 dV_1 dV_2 dV_3 dV_4
        obtain ⟨w133, hw133⟩ : ∃ x, x = w132.alloc (.cells #[.int .u64 ty, .int .i64 128, .int .u32 rn, .int .u32 3, .int .u32 100] 31) := ⟨_, rfl⟩
        have V' := Lib.hid (show Blk w133 gV 31 #[.int .u64 t, .int .i64 128, .int .u32 rt, .int .u32 3, .int .u32 100] by rw [hw133]; exact (V.out.alloc _))
        have M := Lib.hid (show Blk w133 w132.heap.size 31 #[.int .u64 ty, .int .i64 128, .int .u32 rn, .int .u32 3, .int .u32 100] by rw [hw133]; exact (Blk.new _ _ _))
        have lt_V_M := Lib.hid (show gV < w132.heap.size from V.out.lt)
        have ge_M := Lib.hid (show w.heap.size ≤ w132.heap.size from HB.out.size)
        have HB' := Lib.hid (show Below w.heap.size w w133 by rw [hw133]; have r0 := HB.out.alloc HB.out.size (.cells #[.int .u64 ty, .int .i64 128, .int .u32 rn, .int .u32 3, .int .u32 100] 31); exact r0)
        replace V := V'; clear V'
        replace HB := HB'; clear HB'
        have cV_0 := V.out.cell 0
        have cV_1 := V.out.cell 1
        have cV_2 := V.out.cell 2
        have cV_3 := V.out.cell 3
        have cV_4 := V.out.cell 4
        have cM_0 := M.out.cell 0
        have cM_1 := M.out.cell 1
        have cM_2 := M.out.cell 2
        have cM_3 := M.out.cell 3
        have cM_4 := M.out.cell 4
        rw [hw133] at cV_0 cV_1 cV_2 cV_3 cV_4 cM_0 cM_1 cM_2 cM_3 cM_4
        simp at cV_0 cV_1 cV_2 cV_3 cV_4 cM_0 cM_1 cM_2 cM_3 cM_4
        have x2 := cell_in HX.out HB.out habl
        rw [hw133] at x2
        go_wp2_with fail
        rw [← hw133]
        clear hw133 lzV dV_0 dV_1 dV_2 dV_3 dV_4 cV_0 cV_1 cV_2 cV_3 cV_4 cM_0 cM_1 cM_2 cM_3 cM_4
        generalize w132.heap.size = gM at *
        clear x0 x1 x2 HX hrn1 hrn2 hrn3 hty1 hty2 hty3
        refine (HS1 _).mono ?_
        rintro e w134 ⟨rfl, rfl⟩
        have cV_0 := V.out.cell 0
        have cV_1 := V.out.cell 1
        have cV_2 := V.out.cell 2
        have cV_3 := V.out.cell 3
        have cV_4 := V.out.cell 4
        have cM_0 := M.out.cell 0
        have cM_1 := M.out.cell 1
        have cM_2 := M.out.cell 2
        have cM_3 := M.out.cell 3
        have cM_4 := M.out.cell 4
        simp at cV_0 cV_1 cV_2 cV_3 cV_4 cM_0 cM_1 cM_2 cM_3 cM_4
        go_wp2_with fail
        refine (HS2 _).mono ?_
        rintro e w135 ⟨rfl, rfl⟩
        go_wp2_with fail
        refine (HS1 _).mono ?_
        rintro e w136 ⟨rfl, rfl⟩
        go_wp2_with fail
        clear cV_0 cV_1 cV_2 cV_3 cV_4 cM_0 cM_1 cM_2 cM_3 cM_4
        replace V := Lib.hid V.out.drew
        replace M := Lib.hid M.out.drew
        replace HB := Lib.hid HB.out.drew
        go_region_held3 (fun w' => w'.cell? ⟨gM, 0, none⟩ = some (.int .u64 ty) ∧ w'.cell? ⟨gM, 1, none⟩ = some (.int .i64 128) ∧ w'.cell? ⟨gM, 2, none⟩ = some (.int .u32 rn) ∧ w'.cell? ⟨gM, 3, none⟩ = some (.int .u32 3) ∧ w'.cell? ⟨gM, 4, none⟩ = some (.int .u32 100)) (exact meta_cells M.out)
          (first
          | (go_at_call 13
             with_reducible refine (HK _).mono ?_
             rintro e wb ⟨rfl, hb⟩
             replace HB := Lib.hid (HB.out.trans (hb.mono HB.out.size))
             replace V := Lib.hid (V.out.below hb V.out.lt)
             replace M := Lib.hid (M.out.below hb M.out.lt)
             clear hb))
        rw [HC.out]
        clear HK hw1 hw2 HC
        go_wp2_with fail
        refine (HN _).mono ?_
        rintro e w137 ⟨rfl, hb⟩
        replace HB := Lib.hid (HB.out.trans (hb.mono HB.out.size))
        replace V := Lib.hid (V.out.below hb V.out.lt)
        replace M := Lib.hid (M.out.below hb M.out.lt)
        clear hb
        clear HN
        obtain ⟨w138, hw138⟩ : ∃ x, x = w137.alloc (.cells #[.int .u64 ty, .int .i64 128, .int .u32 rn, .int .u32 3, .int .u32 100] 31) := ⟨_, rfl⟩
        have V' := Lib.hid (show Blk w138 gV 31 #[.int .u64 t, .int .i64 128, .int .u32 rt, .int .u32 3, .int .u32 100] by rw [hw138]; exact (V.out.alloc _))
        have M' := Lib.hid (show Blk w138 gM 31 #[.int .u64 ty, .int .i64 128, .int .u32 rn, .int .u32 3, .int .u32 100] by rw [hw138]; exact (M.out.alloc _))
        have Nn := Lib.hid (show Blk w138 w137.heap.size 31 #[.int .u64 ty, .int .i64 128, .int .u32 rn, .int .u32 3, .int .u32 100] by rw [hw138]; exact (Blk.new _ _ _))
        have lt_V_Nn := Lib.hid (show gV < w137.heap.size from V.out.lt)
        have lt_M_Nn := Lib.hid (show gM < w137.heap.size from M.out.lt)
        have ge_Nn := Lib.hid (show w.heap.size ≤ w137.heap.size from HB.out.size)
        have HB' := Lib.hid (show Below w.heap.size w w138 by rw [hw138]; have r0 := HB.out.alloc HB.out.size (.cells #[.int .u64 ty, .int .i64 128, .int .u32 rn, .int .u32 3, .int .u32 100] 31); exact r0)
        replace V := V'; clear V'
        replace M := M'; clear M'
        replace HB := HB'; clear HB'
        go_wp2_with fail
        rw [← hw138]
        clear hw138 
        generalize w137.heap.size = gNn at *
        refine (HBo _).mono ?_
        rintro e w139 ⟨rfl, hb⟩
        replace HB := Lib.hid (HB.out.trans (hb.mono HB.out.size))
        replace V := Lib.hid (V.out.below hb V.out.lt)
        replace M := Lib.hid (M.out.below hb M.out.lt)
        replace Nn := Lib.hid (Nn.out.below hb Nn.out.lt)
        clear hb
        clear HBo
        obtain ⟨w140, hw140⟩ : ∃ x, x = (w139.alloc (.cells #[.int .u64 t, .int .i64 128, .int .u32 rt, .int .u32 3, .int .u32 100, .int .u64 ty, .int .i64 128, .int .u32 rn, .int .u32 3, .int .u32 100] 36)).alloc (.cells #[.bool true, .bool true] 37) := ⟨_, rfl⟩
        have V' := Lib.hid (show Blk w140 gV 31 #[.int .u64 t, .int .i64 128, .int .u32 rt, .int .u32 3, .int .u32 100] by rw [hw140]; exact ((V.out.alloc _).alloc _))
        have M' := Lib.hid (show Blk w140 gM 31 #[.int .u64 ty, .int .i64 128, .int .u32 rn, .int .u32 3, .int .u32 100] by rw [hw140]; exact ((M.out.alloc _).alloc _))
        have Nn' := Lib.hid (show Blk w140 gNn 31 #[.int .u64 ty, .int .i64 128, .int .u32 rn, .int .u32 3, .int .u32 100] by rw [hw140]; exact ((Nn.out.alloc _).alloc _))
        have Bo := Lib.hid (show Blk w140 w139.heap.size 36 #[.int .u64 t, .int .i64 128, .int .u32 rt, .int .u32 3, .int .u32 100, .int .u64 ty, .int .i64 128, .int .u32 rn, .int .u32 3, .int .u32 100] by rw [hw140]; exact ((Blk.new _ _ _).alloc _))
        have lt_V_Bo := Lib.hid (show gV < w139.heap.size from V.out.lt)
        have lt_M_Bo := Lib.hid (show gM < w139.heap.size from M.out.lt)
        have lt_Nn_Bo := Lib.hid (show gNn < w139.heap.size from Nn.out.lt)
        have ge_Bo := Lib.hid (show w.heap.size ≤ w139.heap.size from HB.out.size)
        have Rt := Lib.hid (show Blk w140 (w139.heap.size + 1) 37 #[.bool true, .bool true] by rw [hw140, show (w139.heap.size + 1) = ((w139.alloc (.cells #[.int .u64 t, .int .i64 128, .int .u32 rt, .int .u32 3, .int .u32 100, .int .u64 ty, .int .i64 128, .int .u32 rn, .int .u32 3, .int .u32 100] 36))).heap.size by simp [World.setCell]]; exact (Blk.new _ _ _))
        have lt_V_Rt := Lib.hid (show gV < (w139.heap.size + 1) from Nat.lt_of_lt_of_le V.out.lt (Nat.le_add_right _ _))
        have lt_M_Rt := Lib.hid (show gM < (w139.heap.size + 1) from Nat.lt_of_lt_of_le M.out.lt (Nat.le_add_right _ _))
        have lt_Nn_Rt := Lib.hid (show gNn < (w139.heap.size + 1) from Nat.lt_of_lt_of_le Nn.out.lt (Nat.le_add_right _ _))
        have lt_Bo_Rt := Lib.hid (show w139.heap.size < (w139.heap.size + 1) by omega)
        have ge_Rt := Lib.hid (show w.heap.size ≤ (w139.heap.size + 1) from Nat.le_trans HB.out.size (Nat.le_add_right _ _))
        have HB' := Lib.hid (show Below w.heap.size w w140 by rw [hw140]; have r0 := HB.out.alloc HB.out.size (.cells #[.int .u64 t, .int .i64 128, .int .u32 rt, .int .u32 3, .int .u32 100, .int .u64 ty, .int .i64 128, .int .u32 rn, .int .u32 3, .int .u32 100] 36); have r1 := r0.alloc r0.size (.cells #[.bool true, .bool true] 37); exact r1)
        replace V := V'; clear V'
        replace M := M'; clear M'
        replace Nn := Nn'; clear Nn'
        replace HB := HB'; clear HB'
        go_wp2_with fail
        rw [← hw140]
        clear hw140 
        generalize (w139.heap.size + 1) = gRt at *
        generalize w139.heap.size = gBo at *
        have cV_0 := V.out.cell 0
        have cV_1 := V.out.cell 1
        have cV_2 := V.out.cell 2
        have cV_3 := V.out.cell 3
        have cV_4 := V.out.cell 4
        have cM_0 := M.out.cell 0
        have cM_1 := M.out.cell 1
        have cM_2 := M.out.cell 2
        have cM_3 := M.out.cell 3
        have cM_4 := M.out.cell 4
        have cNn_0 := Nn.out.cell 0
        have cNn_1 := Nn.out.cell 1
        have cNn_2 := Nn.out.cell 2
        have cNn_3 := Nn.out.cell 3
        have cNn_4 := Nn.out.cell 4
        have cBo_0 := Bo.out.cell 0
        have cBo_1 := Bo.out.cell 1
        have cBo_2 := Bo.out.cell 2
        have cBo_3 := Bo.out.cell 3
        have cBo_4 := Bo.out.cell 4
        have cBo_5 := Bo.out.cell 5
        have cBo_6 := Bo.out.cell 6
        have cBo_7 := Bo.out.cell 7
        have cBo_8 := Bo.out.cell 8
        have cBo_9 := Bo.out.cell 9
        have cRt_0 := Rt.out.cell 0
        have cRt_1 := Rt.out.cell 1
        simp at cV_0 cV_1 cV_2 cV_3 cV_4 cM_0 cM_1 cM_2 cM_3 cM_4 cNn_0 cNn_1 cNn_2 cNn_3 cNn_4 cBo_0 cBo_1 cBo_2 cBo_3 cBo_4 cBo_5 cBo_6 cBo_7 cBo_8 cBo_9 cRt_0 cRt_1
        go_quiet ((go_at_call 17; exact Calls.quiet_of_same (HS1 _)))
        clear cV_0 cV_1 cV_2 cV_3 cV_4 cM_0 cM_1 cM_2 cM_3 cM_4 cNn_0 cNn_1 cNn_2 cNn_3 cNn_4 cBo_0 cBo_1 cBo_2 cBo_3 cBo_4 cBo_5 cBo_6 cBo_7 cBo_8 cBo_9 cRt_0 cRt_1
        replace V := Lib.hid (V.out.drewN nq)
        replace M := Lib.hid (M.out.drewN nq)
        replace Nn := Lib.hid (Nn.out.drewN nq)
        replace Bo := Lib.hid (Bo.out.drewN nq)
        replace Rt := Lib.hid (Rt.out.drewN nq)
        replace HB := Lib.hid (below_drewN HB.out nq)
        generalize w140.drewN nq = wq at *
        have cV_0 := V.out.cell 0
        have cV_1 := V.out.cell 1
        have cV_2 := V.out.cell 2
        have cV_3 := V.out.cell 3
        have cV_4 := V.out.cell 4
        have cM_0 := M.out.cell 0
        have cM_1 := M.out.cell 1
        have cM_2 := M.out.cell 2
        have cM_3 := M.out.cell 3
        have cM_4 := M.out.cell 4
        have cNn_0 := Nn.out.cell 0
        have cNn_1 := Nn.out.cell 1
        have cNn_2 := Nn.out.cell 2
        have cNn_3 := Nn.out.cell 3
        have cNn_4 := Nn.out.cell 4
        have cBo_0 := Bo.out.cell 0
        have cBo_1 := Bo.out.cell 1
        have cBo_2 := Bo.out.cell 2
        have cBo_3 := Bo.out.cell 3
        have cBo_4 := Bo.out.cell 4
        have cBo_5 := Bo.out.cell 5
        have cBo_6 := Bo.out.cell 6
        have cBo_7 := Bo.out.cell 7
        have cBo_8 := Bo.out.cell 8
        have cBo_9 := Bo.out.cell 9
        have cRt_0 := Rt.out.cell 0
        have cRt_1 := Rt.out.cell 1
        simp at cV_0 cV_1 cV_2 cV_3 cV_4 cM_0 cM_1 cM_2 cM_3 cM_4 cNn_0 cNn_1 cNn_2 cNn_3 cNn_4 cBo_0 cBo_1 cBo_2 cBo_3 cBo_4 cBo_5 cBo_6 cBo_7 cBo_8 cBo_9 cRt_0 cRt_1
        have hk3 := HK3.out
        have hk4 := HK4.out
        go_wp2_with fail
        go_quiet ((go_at_call 17; exact Calls.quiet_of_same (HS2 _)))
        clear hk3 hk4 cV_0 cV_1 cV_2 cV_3 cV_4 cM_0 cM_1 cM_2 cM_3 cM_4 cNn_0 cNn_1 cNn_2 cNn_3 cNn_4 cBo_0 cBo_1 cBo_2 cBo_3 cBo_4 cBo_5 cBo_6 cBo_7 cBo_8 cBo_9 cRt_0 cRt_1
        replace V := Lib.hid (V.out.drewN nq)
        replace M := Lib.hid (M.out.drewN nq)
        replace Nn := Lib.hid (Nn.out.drewN nq)
        replace Bo := Lib.hid (Bo.out.drewN nq)
        replace Rt := Lib.hid (Rt.out.drewN nq)
        replace HB := Lib.hid (below_drewN HB.out nq)
        generalize wq.drewN nq = wz at *
        have fzV_0 := V.out.frozen 0
        have fzV_1 := V.out.frozen 1
        have fzV_2 := V.out.frozen 2
        have fzV_3 := V.out.frozen 3
        have fzV_4 := V.out.frozen 4
        have lzM := M.out.lt
        have lzV := V.out.lt
        have dM_0 := M.out.cell 0
        have dM_1 := M.out.cell 1
        have dM_2 := M.out.cell 2
        have dM_3 := M.out.cell 3
        have dM_4 := M.out.cell 4
        have dV_0 := V.out.cell 0
        have dV_1 := V.out.cell 1
        have dV_2 := V.out.cell 2
        have dV_3 := V.out.cell 3
        have dV_4 := V.out.cell 4
        simp at dM_0 dM_1 dM_2 dM_3 dM_4 dV_0 dV_1 dV_2 dV_3 dV_4
        obtain ⟨w141, hw141⟩ : ∃ x, x = ((((wz.setCell ⟨gV, 0, none⟩ (.int .u64 ty)).setCell ⟨gV, 1, none⟩ (.int .i64 128)).setCell ⟨gV, 2, none⟩ (.int .u32 rn)).setCell ⟨gV, 3, none⟩ (.int .u32 3)).setCell ⟨gV, 4, none⟩ (.int .u32 100) := ⟨_, rfl⟩
        have V' := Lib.hid (show Blk w141 gV 31 #[.int .u64 ty, .int .i64 128, .int .u32 rn, .int .u32 3, .int .u32 100] by rw [hw141]; exact (((((V.out.set_ 0 (.int .u64 ty)).set_ 1 (.int .i64 128)).set_ 2 (.int .u32 rn)).set_ 3 (.int .u32 3)).set_ 4 (.int .u32 100)))
        have M' := Lib.hid (show Blk w141 gM 31 #[.int .u64 ty, .int .i64 128, .int .u32 rn, .int .u32 3, .int .u32 100] by rw [hw141]; exact (((((M.out.far (p := ⟨gV, 0, none⟩) (Nat.ne_of_gt lt_V_M.out) (.int .u64 ty)).far (p := ⟨gV, 1, none⟩) (Nat.ne_of_gt lt_V_M.out) (.int .i64 128)).far (p := ⟨gV, 2, none⟩) (Nat.ne_of_gt lt_V_M.out) (.int .u32 rn)).far (p := ⟨gV, 3, none⟩) (Nat.ne_of_gt lt_V_M.out) (.int .u32 3)).far (p := ⟨gV, 4, none⟩) (Nat.ne_of_gt lt_V_M.out) (.int .u32 100)))
        have Nn' := Lib.hid (show Blk w141 gNn 31 #[.int .u64 ty, .int .i64 128, .int .u32 rn, .int .u32 3, .int .u32 100] by rw [hw141]; exact (((((Nn.out.far (p := ⟨gV, 0, none⟩) (Nat.ne_of_gt lt_V_Nn.out) (.int .u64 ty)).far (p := ⟨gV, 1, none⟩) (Nat.ne_of_gt lt_V_Nn.out) (.int .i64 128)).far (p := ⟨gV, 2, none⟩) (Nat.ne_of_gt lt_V_Nn.out) (.int .u32 rn)).far (p := ⟨gV, 3, none⟩) (Nat.ne_of_gt lt_V_Nn.out) (.int .u32 3)).far (p := ⟨gV, 4, none⟩) (Nat.ne_of_gt lt_V_Nn.out) (.int .u32 100)))
        have Bo' := Lib.hid (show Blk w141 gBo 36 #[.int .u64 t, .int .i64 128, .int .u32 rt, .int .u32 3, .int .u32 100, .int .u64 ty, .int .i64 128, .int .u32 rn, .int .u32 3, .int .u32 100] by rw [hw141]; exact (((((Bo.out.far (p := ⟨gV, 0, none⟩) (Nat.ne_of_gt lt_V_Bo.out) (.int .u64 ty)).far (p := ⟨gV, 1, none⟩) (Nat.ne_of_gt lt_V_Bo.out) (.int .i64 128)).far (p := ⟨gV, 2, none⟩) (Nat.ne_of_gt lt_V_Bo.out) (.int .u32 rn)).far (p := ⟨gV, 3, none⟩) (Nat.ne_of_gt lt_V_Bo.out) (.int .u32 3)).far (p := ⟨gV, 4, none⟩) (Nat.ne_of_gt lt_V_Bo.out) (.int .u32 100)))
        have Rt' := Lib.hid (show Blk w141 gRt 37 #[.bool true, .bool true] by rw [hw141]; exact (((((Rt.out.far (p := ⟨gV, 0, none⟩) (Nat.ne_of_gt lt_V_Rt.out) (.int .u64 ty)).far (p := ⟨gV, 1, none⟩) (Nat.ne_of_gt lt_V_Rt.out) (.int .i64 128)).far (p := ⟨gV, 2, none⟩) (Nat.ne_of_gt lt_V_Rt.out) (.int .u32 rn)).far (p := ⟨gV, 3, none⟩) (Nat.ne_of_gt lt_V_Rt.out) (.int .u32 3)).far (p := ⟨gV, 4, none⟩) (Nat.ne_of_gt lt_V_Rt.out) (.int .u32 100)))
        have HB' := Lib.hid (show Below w.heap.size w w141 by rw [hw141]; have q0 := HB.out.setCell (p := ⟨gV, 0, none⟩) ge_V.out (.int .u64 ty); have q1 := q0.setCell (p := ⟨gV, 1, none⟩) ge_V.out (.int .i64 128); have q2 := q1.setCell (p := ⟨gV, 2, none⟩) ge_V.out (.int .u32 rn); have q3 := q2.setCell (p := ⟨gV, 3, none⟩) ge_V.out (.int .u32 3); have q4 := q3.setCell (p := ⟨gV, 4, none⟩) ge_V.out (.int .u32 100); exact q4)
        replace V := V'; clear V'
        replace M := M'; clear M'
        replace Nn := Nn'; clear Nn'
        replace Bo := Bo'; clear Bo'
        replace Rt := Rt'; clear Rt'
        replace HB := HB'; clear HB'
        have cM_0 := M.out.cell 0
        have cM_1 := M.out.cell 1
        have cM_2 := M.out.cell 2
        have cM_3 := M.out.cell 3
        have cM_4 := M.out.cell 4
        have cV_0 := V.out.cell 0
        have cV_1 := V.out.cell 1
        have cV_2 := V.out.cell 2
        have cV_3 := V.out.cell 3
        have cV_4 := V.out.cell 4
        rw [hw141] at cM_0 cM_1 cM_2 cM_3 cM_4 cV_0 cV_1 cV_2 cV_3 cV_4
        simp at cM_0 cM_1 cM_2 cM_3 cM_4 cV_0 cV_1 cV_2 cV_3 cV_4
        go_wp2_with fail
        rw [← hw141]
        clear hw141 fzV_0 fzV_1 fzV_2 fzV_3 fzV_4 lzM lzV dM_0 dM_1 dM_2 dM_3 dM_4 dV_0 dV_1 dV_2 dV_3 dV_4 cM_0 cM_1 cM_2 cM_3 cM_4 cV_0 cV_1 cV_2 cV_3 cV_4
        go_roundw
        case rel =>
          first
            | exact ⟨k + 1, N, ty, 128, rn, 3, 100, by omega, by go_num, rfl, HI'.out, V, HB⟩
            | ((repeat apply Exists.intro); exact ⟨⟨k + 1, N, ty, 128, rn, 3, 100, by omega, by go_num, rfl, HI'.out, V, HB⟩, rfl⟩)
        case measure => simp [intOf]; omega
    · obtain rfl : k = len := by omega
      go_wp2_with fail
      go_ret
      exact ⟨rfl, HB.out⟩
theorem mturns_walk (tx : Int) (a : Option Addr) (len cap : Nat) (zs : List Int) (w : World) (h0 : (Lit.int .u64 tx).wf = true) (hz : IsRow .u32 w a len cap zs) :
    Calls Try.prog 7 #[.int .u64 tx, .slice a len cap] w fun e w' => e = .returned (.bool true) ∧ Below w.heap.size w w' := by
  have u := bounds_u64 h0
  obtain ⟨tx, rfl⟩ := Int.eq_ofNat_of_zero_le u.1
  by_cases h1 : 4611686018427387864 < tx
  · exact mturns_far tx a len cap zs w h1
  by_cases h2 : 20 < len
  · exact mturns_long tx a len cap zs w h1 h2
  exact mturns_main tx a len cap zs w h1 h2 hz
end Go.Proofs.Ytfmalohaaibhiaa
