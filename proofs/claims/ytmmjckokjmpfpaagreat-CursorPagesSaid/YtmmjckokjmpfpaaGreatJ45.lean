/-
  The walk of the statement CursorPages: from every start, at every argument, it returns true and changes no block that was there before. (Written by wip/tools/gen_cupages.py.)
-/
import Derived.Test.YtmmjckokjmpfpaaGreatJ43
import Derived.Deep.CutRange
import Derived.Test.YtmmjckokjmpfpaaGreatJ44
import Derived.Test.YtmmjckokjmpfpaaGreatJ20
set_option linter.unusedVariables false
set_option linter.unusedSimpArgs false
namespace Go.Proofs.YtmmjckokjmpfpaaGreat
open Go.RowKit
open Go.Lib hiding intOf
attribute [local go_sem ↓] Go.wp_at_zero Go.wp_at_succ

def seenC (m : Nat) (M : List Nat) : List Value := (List.range m).map fun (j : Nat) => Value.int .i64 (if j ∈ M then 1 else 0)
theorem seenC_len (m : Nat) (M : List Nat) : (seenC m M).length = m := by simp [seenC]
theorem seenC_at {m j : Nat} {M : List Nat} (h : j < m) : (seenC m M)[j]? = some (.int .i64 (if j ∈ M then 1 else 0)) := by simp [seenC, h]
theorem seenC_set {m x : Nat} {M : List Nat} (h : x < m) : (seenC m M).set x (.int .i64 1) = seenC m (M ++ [x]) := by
 refine List.ext_getElem? fun i => ?_
 rw [List.getElem?_set, seenC_len]
 by_cases hi : i < m
 ·rw [seenC_at hi, seenC_at hi]
  by_cases hx : x = i
  ·subst hx
   simp [hi]
  ·rw [if_neg hx]
   have : i ∈ M ++ [x] ↔ i ∈ M := by simp; omega
   simp only [this]
 ·have h1 : (seenC m M)[i]? = none := List.getElem?_eq_none (by rw [seenC_len]; omega)
  have h2 : (seenC m (M ++ [x]))[i]? = none := List.getElem?_eq_none (by rw [seenC_len]; omega)
  rw [h1, h2, if_neg (by omega)]
theorem infoIntP : (Tryz.prog.info? 3).map (fun i => (i.zero, i.size, i.bytes)) = some (some (.int .i64 0), 1, 8) := by kernel_rfl
theorem makeIntP (n : Nat) (hn : n ≤ 10000) (w : World) : (Instr.makeSlice 60 (.int .i64 (n : Int)) (.int .i64 (n : Int))).run Tryz.prog w = .ok (.slice (some ⟨w.heap.size, 0, none⟩) n n) (w.alloc (.cells (seenC n []).toArray 3)) := by
 obtain ⟨i, hi0, hz, hs, hb⟩ := info_parts infoIntP
 have hr := run_make (P := Tryz.prog) w 60 3 i _ Tryz.underlying60 hi0 hz .i64 .i64 n n (by omega) (by omega) (by rw [hb]; omega) (by omega)
 simp only [Int.toNat_natCast] at hr
 rw [hs, Nat.mul_one] at hr
 have he : madeCells #[.int .i64 0] n = (seenC n []).toArray := by
  apply Array.toList_inj.1
  rw [toList_madeCells_one]
  unfold seenC
  simp
  exact List.eq_replicate_iff.2 ⟨by simp, by simp⟩ |>.symm
 rw [← he]
 exact hr
theorem new_at {ns : List Nat} (h : ns.Nodup) {k x : Nat} (hx : ns[k]? = some x) : x ∉ ns.take k := by
 obtain ⟨hk, rfl⟩ := List.getElem?_eq_some_iff.1 hx
 have h1 : (ns.take k ++ [ns[k]]).Nodup := by rw [← List.take_succ_eq_append_getElem hk]; exact h.sublist (List.take_sublist _ _)
 intro hm
 exact (List.nodup_append.1 h1).2.2 _ hm _ (by simp) rfl
theorem take_next {ns : List Nat} {k x : Nat} (hx : ns[k]? = some x) : ns.take (k + 1) = ns.take k ++ [x] := by
 obtain ⟨hk, rfl⟩ := List.getElem?_eq_some_iff.1 hx
 exact List.take_succ_eq_append_getElem hk
theorem leaf_read {s : ByteArray} {z : Nat} {l : List It} (h : nodeN 128 s z = .lf l) : errAt 128 s z = 0 ∧ readI (pageOf 128 s z).kd (pageOf 128 s z).ct (pageOf 128 s z).pg (pageOf 128 s z).lk (pageOf 128 s z).tx (pageOf 128 s z).bd = some l := by
 obtain ⟨p, hp, _, hi⟩ := leaf_some h
 obtain ⟨h1, h2⟩ := errAt_some hp
 rw [h2]
 exact ⟨h1, hi⟩
set_option maxRecDepth 100000 in
set_option maxHeartbeats 25600000 in
theorem cupages_walk (A : Option Addr) (n c : Nat) (l : List Pr) (key : ByteArray) (w : World) (hl : Prs w w.heap.size A n c l) (_hk : key.size ≤ maxLen) :
  Calls Tryz.prog 6 #[.slice A n c, .string key] w fun e w' => e = .returned (.bool true) ∧ Below w.heap.size w w' := by
 have HR := Lib.hid hl.1
 have HX := Lib.hid hl.near
 have HN := Lib.hid hl.2.2.2.1
 have HLn := Lib.hid (pr_len hl.1)
 clear hl
 clear _hk
 have HB := Lib.hid (Below.refl w.heap.size w)
 rcases hlp : lightP l with _ | _
 ·skip
  go_enter Tryz.func6, Tryz.ntmps6
  go_wp2_with fail
  refine (lives12_any _).mono ?_
  rintro e w1 ⟨rfl, hb⟩
  replace HB := Lib.hid (HB.out.trans (hb.mono HB.out.size))
  replace HR := Lib.hid (HR.out.below hb)
  have HS1 := Lib.hid hb.size
  clear hb
  go_wp2_with fail
  refine (lightP_any A n c l _ HR.out (Nat.le_trans HN.out (by decide)) HX.out).mono ?_
  rintro e w2 ⟨rfl, q, rfl⟩
  replace HB := Lib.hid (below_drewN HB.out q)
  rw [hlp]
  go_wp2_with fail
  go_ret
  exact ⟨rfl, HB.out⟩
 have HLp := Lib.hid hlp
 obtain ⟨h60, hsm⟩ := lightP_parts hlp
 have HF := Lib.hid (FewP.of_sort h60 hsm)
 have H60 := Lib.hid h60
 clear hlp h60 hsm
 by_cases hk : 100 < key.size
 ·have g1key : decide ((100 : Int) < (key.size : Int)) = true := by simp; omega
  have g2key : decide (100 < key.size) = true := by simp; omega
  clear hk
  go_enter Tryz.func6, Tryz.ntmps6
  go_wp2_with fail
  refine (lives12_any _).mono ?_
  rintro e w1 ⟨rfl, hb⟩
  replace HB := Lib.hid (HB.out.trans (hb.mono HB.out.size))
  replace HR := Lib.hid (HR.out.below hb)
  have HS1 := Lib.hid hb.size
  clear hb
  go_wp2_with fail
  refine (lightP_any A n c l _ HR.out (Nat.le_trans HN.out (by decide)) HX.out).mono ?_
  rintro e w2 ⟨rfl, q, rfl⟩
  replace HB := Lib.hid (below_drewN HB.out q)
  rw [HLp.out]
  go_wp2_with fail
  go_ret
  exact ⟨rfl, HB.out⟩
 have g1key : decide ((100 : Int) < (key.size : Int)) = false := by simp; omega
 have g2key : decide (100 < key.size) = false := by simp; omega
 have HSkey := Lib.hid (show key.size ≤ 100 by omega)
 clear hk
 go_enter Tryz.func6, Tryz.ntmps6
 go_wp2_with fail
 refine (lives12_any _).mono ?_
 rintro e w1 ⟨rfl, hb⟩
 replace HB := Lib.hid (HB.out.trans (hb.mono HB.out.size))
 replace HR := Lib.hid (HR.out.below hb)
 have HS1 := Lib.hid hb.size
 clear hb
 go_wp2_with fail
 refine (lightP_any A n c l _ HR.out (Nat.le_trans HN.out (by decide)) HX.out).mono ?_
 rintro e w2 ⟨rfl, q, rfl⟩
 replace HB := Lib.hid (below_drewN HB.out q)
 replace HR := Lib.hid (show Reads (w1.drewN q) (w1.drewN q).heap.size 2 A n (prc l) from (HR.out.drewN q).more HS1.out)
 clear HS1
 rw [HLp.out]
 go_wp2_with fail
 refine (sorted_any A n c l _ HR.out (by have := HLn.out; have := H60.out; omega)).mono ?_
 rintro e w3 ⟨A3, n3, c3, rfl, hown, hb⟩
 obtain ⟨_, _, hv, hnc, hcm, _⟩ := own_form hown
 cases hv
 replace HB := Lib.hid (HB.out.trans (hb.mono HB.out.size))
 have HR3 := Lib.hid (Reads.of_own hown)
 clear hb hown HR HLp HX HN HLn H60
 obtain ⟨L, hL⟩ : ∃ x, x = sortP l := ⟨_, rfl⟩
 rw [← hL] at HF HR3
 clear hL
 have hLn := pr_len HR3.out
 have h60 := HF.out.few
 have HLn := Lib.hid hLn
 have hn3 : n3 ≤ 60 := by omega
 clear hLn h60
 go_wp2_with fail
 refine (laid2_any A3 n3 c3 L _ HR3.out HF.out).mono ?_
 rintro e w4 ⟨hb, ⟨hok, rfl⟩ | ⟨hok, rfl⟩⟩
 ·replace HB := Lib.hid (HB.out.trans (hb.mono HB.out.size))
  clear hb
  go_wp2_with fail
  go_ret
  exact ⟨rfl, HB.out⟩
 replace HB := Lib.hid (HB.out.trans (hb.mono HB.out.size))
 replace HR3 := Lib.hid ((HR3.out.below hb).more hb.size)
 clear hb
 by_cases hnil : L = []
 ·rw [show rootY L = 0 by rw [hnil]; rfl]
  clear hnil
  go_wp2_with fail
  go_ret
  exact ⟨rfl, HB.out⟩
 obtain ⟨_, d, ns, hst⟩ := stands HF.out hnil hok
 obtain ⟨im, him⟩ : ∃ x, x = imY L := ⟨_, rfl⟩
 obtain ⟨r, hr⟩ : ∃ x, x = rootY L := ⟨_, rfl⟩
 rw [← him, ← hr] at hst ⊢
 clear him hr hok hnil
 have HST := Lib.hid hst
 obtain ⟨hr2, hrn⟩ := hst.root
 have hrz : ((r : Int) == 0) = false := by simp; omega
 have hims := hst.size
 have hnl := hst.len
 have hi4 : im.size ≤ 400000 := by omega
 have hr9 : r < 4294967296 := by omega
 clear hst
 obtain ⟨k1, k2, k3, k4, z, lf, k5, k6⟩ := HST.out.way key
 obtain ⟨m1, m2, _⟩ := HST.out.way ⟨#[]⟩
 obtain ⟨ms, hms⟩ := HST.out.head
 obtain ⟨y1, y2⟩ := leaf_read k6
 obtain ⟨P, hP⟩ : ∃ x, x = pathL 128 im r key := ⟨_, rfl⟩
 rw [← hP] at k2 k3 k4 k5
 have hd1 := HST.out.d1
 have hd7 := HST.out.d7
 have HC1 := fun w => cpages_any 128 im r w hi4 hr9
 have HC2 := fun w => cpath_any 128 im r key w hi4 hr9
 have HC3 := fun w => cdepth_any 128 im r w hi4 hr9
 rw [HST.out.trav, HST.out.te] at HC1
 rw [← hP, k1] at HC2
 rw [m1, m2] at HC3
 dsimp only at HC1
 obtain ⟨K, hK⟩ : ∃ x, x = ns.length := ⟨_, rfl⟩
 obtain ⟨T, hT⟩ : ∃ x, x = 2 + K := ⟨_, rfl⟩
 have HMem := Lib.hid (fun x => HST.out.mem x)
 have HND := Lib.hid HST.out.nodup
 rw [← hK] at HMem
 have u1 : Int.tdiv (im.size : Int) 128 = (T : Int) := by rw [Int.tdiv_eq_ediv_of_nonneg (by omega)]; omega
 have u2 : (T : Int) - 2 = (K : Int) := by omega
 have hK9 : K ≤ 2600 := by omega
 have hT9 : T ≤ 10000 := by omega
 have hPr : nthU P 0 = r := nthU_of (by rw [← List.head?_eq_getElem?]; exact k3)
 have hNr : nthU ns 0 = r := by rw [hms]; rfl
 have hK1 : 0 < K := by rw [hK, hms]; simp
 obtain ⟨d1, hd1e⟩ : ∃ x, x = d - 1 := ⟨_, rfl⟩
 have u3 : (d : Int) - 1 = (d1 : Int) := by omega
 have hPz : nthU P d1 = z := nthU_of (by rw [hd1e, ← k2, ← List.getLast?_eq_getElem?]; exact k5)
 have hz9 : z < 4294967296 := by
  have h1 : z ∈ ns := k4 z (List.mem_of_getElem? (show P[d1]? = some z by rw [hd1e, ← k2, ← List.getLast?_eq_getElem?]; exact k5))
  have := (HMem.out z).1 h1
  omega
 have hRd := fun w => rread_all 128 im z w (Nat.le_trans hi4 (by decide)) hz9
 rw [y1] at hRd
 have hbd := pageOf_bd 128 im z
 obtain ⟨pg, hpg⟩ : ∃ x, x = pageOf 128 im z := ⟨_, rfl⟩
 rw [← hpg] at hRd y2 hbd
 obtain ⟨qk, qc, qp, ql, qt, qb⟩ := pg
 simp only [Pg.agg] at hRd y2 hbd
 have hOf := fun w => rof8_any qk qc qp ql qt qb w hbd
 rw [y2] at hOf
 have hGd := fun w => rgood_any 128 w
 rw [show goodSize 128 = true from rfl] at hGd
 have HC1 := Lib.hid HC1
 have HC2 := Lib.hid HC2
 have HC3 := Lib.hid HC3
 have HRd := Lib.hid hRd
 have HOf := Lib.hid hOf
 have HGd := Lib.hid hGd
 have HPz := Lib.hid hPz
 have HPr := Lib.hid hPr
 have HNr := Lib.hid hNr
 have HPl := Lib.hid k2
 have HKl := Lib.hid hK
 have Hd := Lib.hid (show d1 < d by omega)
 have Hd0 := Lib.hid (show 0 < d by omega)
 have hd2 : ¬ (d : Int) < 1 := by omega
 clear k1 k2 k3 k4 k5 k6 m1 m2 hms y1 y2 hP hd1 hd7 hPz hPr hNr hT hd1e hz9 hRd hOf hGd hbd hims hnl hi4 hr9 hr2 hrn hK hpg HST
 go_wp2_with fail
 refine (HC1.out _).mono ?_
 rintro e w5 ⟨A5, n5, c5, rfl, h5, hb⟩
 obtain rfl : n5 = K := by have := ulen h5; have := HKl.out; simp only [Option.getD_some] at *; omega
 have HR5 := Lib.hid (show Reads w5 w5.heap.size 1 A5 n5 (ucells ns) from h5)
 replace HB := Lib.hid (HB.out.trans (hb.mono HB.out.size))
 clear hb h5 HC1
 go_wp2_with fail
 refine (HC2.out _).mono ?_
 rintro e w6 ⟨A6, n6, c6, rfl, h6, hn6, hc6, hb⟩
 obtain rfl : n6 = d := by have := ulen h6; have := HPl.out; omega
 have HR6 := Lib.hid h6
 replace HB := Lib.hid (HB.out.trans (hb.mono HB.out.size))
 replace HR5 := Lib.hid ((HR5.out.below hb).more hb.size)
 clear hb h6 HC2
 go_wp2_with fail
 refine (HC3.out _).mono ?_
 rintro e w7 ⟨rfl, hb⟩
 replace HB := Lib.hid (HB.out.trans (hb.mono HB.out.size))
 replace HR5 := Lib.hid ((HR5.out.below hb).more hb.size)
 replace HR6 := Lib.hid ((HR6.out.below hb).more hb.size)
 clear hb HC3
 obtain ⟨a5, rfl, hb5, q5⟩ := ureads_at HR5.out hK1
 obtain ⟨a6, rfl, hb6, q6⟩ := ureads_at HR6.out Hd0.out
 rw [HNr.out, add_zero_addr] at q5
 rw [HPr.out, add_zero_addr] at q6
 have HL5 := Lib.hid hb5
 have HL6 := Lib.hid hb6
 have hd0 : (0 : Int) < (n6 : Int) := by have := Hd0.out; omega
 have hk0 : (0 : Int) < (n5 : Int) := by omega
 clear hb5 hb6
 go_upto_region 14 with fail
 have hmk := makeIntP T hT9
 clear q5 q6
 go_upto_region 16 with fail
 obtain ⟨w8, hw8⟩ : ∃ y, y = w7.alloc (.cells (seenC T []).toArray 3) := ⟨_, rfl⟩
 obtain ⟨g, hg⟩ : ∃ y, y = w7.heap.size := ⟨_, rfl⟩
 have HS := Lib.hid (show Blk w8 g 3 (seenC T []).toArray by rw [hw8, hg]; exact Blk.new _ _ _)
 have HB8 := Lib.hid (show Below w.heap.size w w8 by rw [hw8]; exact HB.out.alloc HB.out.size _)
 replace HR5 := Lib.hid (show Reads w8 g 1 (some a5) n5 (ucells ns) by rw [hw8, hg]; exact HR5.out.alloc (Nat.le_refl _) _)
 replace HR6 := Lib.hid (show Reads w8 g 1 (some a6) n6 (ucells P) by rw [hw8, hg]; exact HR6.out.alloc (Nat.le_refl _) _)
 have HG := Lib.hid (show w.heap.size ≤ g by rw [hg]; exact HB.out.size)
 have HL5 := Lib.hid (show a5.block < g by rw [hg]; exact HL5.out)
 have HL6 := Lib.hid (show a6.block < g by rw [hg]; exact HL6.out)
 rw [← hw8, ← hg]
 clear hw8 hg hmk HB
 have HK0 := Lib.hid (Kept.refl (fun k => k = g) w8)
 have HLg := Lib.hid HS.out.lt
 go_loopw [15] (fun i wr => ∃ k : Nat, k ≤ n5 ∧ i = .int .i64 k ∧ Hid (Blk wr g 3 (seenC T (ns.take k)).toArray) ∧ Hid (Kept (fun k => k = g) w8 wr)) (fun i _ => n5 - (intOf i).toNat)
 case atStart => exact ⟨0, Nat.zero_le _, rfl, HS, HK0⟩
 case round =>
  clear HS HK0
  obtain ⟨k, hkn, rfl, HSk, HKk⟩ := hrel
  by_cases hlt : k < n5
  ·obtain ⟨x, hx⟩ : ∃ x, ns[k]? = some x := ⟨_, List.getElem?_eq_getElem (by have := HKl.out; omega)⟩
   have hxm := (HMem.out x).1 (List.mem_of_getElem? hx)
   have c0 := (HKk.out.cell (p := a5.add k) (by rw [block_add]; have := HL5.out; have := HLg.out; omega) (by rw [block_add]; have := HL5.out; omega)).trans (ureads_cell HR5.out hlt)
   rw [nthU_of hx] at c0
   have x1 : ¬ (x : Int) < 2 := by omega
   have x2 : ¬ (T : Int) ≤ (x : Int) := by omega
   have x3 : (0 : Int) ≤ (x : Int) := by omega
   have x4 : (x : Int) < (T : Int) := by omega
   have hk0' : (0 : Int) ≤ (k : Int) := by omega
   have hk1' : (k : Int) < (n5 : Int) := by omega
   have hxT : x < T := by omega
   have hx9 : x ≤ 10000 := by omega
   have s0 : wr.cell? ⟨g, x, none⟩ = some (.int .i64 0) := by
    rw [HSk.out.cell x]
    have := seenC_at (M := ns.take k) hxT
    rw [if_neg (new_at HND.out hx)] at this
    simpa using this
   have f0 := HSk.out.frozen x
   have HSn := Lib.hid (show Blk (wr.setCell ⟨g, x, none⟩ (.int .i64 1)) g 3 (seenC T (ns.take (k + 1))).toArray by
    have h1 := HSk.out.set_ x (.int .i64 1)
    rw [List.setIfInBounds_toArray, seenC_set hxT, ← take_next hx] at h1
    exact h1)
   have HKn := Lib.hid (show Kept (fun k => k = g) w8 (wr.setCell ⟨g, x, none⟩ (.int .i64 1)) from HKk.out.setCell (.inl rfl) _)
   have hI := i64_nat x (by omega)
   clear hx hxm hxT hx9 HSk HKk
   go_wp2_with fail
   go_roundw
   case rel =>
    first
     | exact ⟨k + 1, by omega, by go_num, HSn, HKn⟩
     | ((repeat apply Exists.intro); exact ⟨⟨k + 1, by omega, by go_num, HSn, HKn⟩, rfl⟩)
   case measure => simp [intOf]; omega
  ·obtain rfl : k = n5 := by omega
   have HBr := Lib.hid (show Below w.heap.size w wr from HB8.out.trans (HKk.out.below (B := w.heap.size) (by rintro i rfl; exact HG.out) HB8.out.size))
   have c1 := (HKk.out.cell (p := a6.add d1) (by rw [block_add]; have := HL6.out; have := HLg.out; omega) (by rw [block_add]; have := HL6.out; omega)).trans (ureads_cell HR6.out Hd.out)
   rw [HPz.out] at c1
   have hd3 : (0 : Int) ≤ (d1 : Int) := by omega
   have hd4 : (d1 : Int) < (n6 : Int) := by have := Hd.out; omega
   obtain ⟨hzp, hip⟩ := zero_of_info infoPg
   have HIP := Lib.hid hip
   clear hlt hkn HSk HKk hip
   go_wp2_with fail
   refine (HRd.out _).mono ?_
   rintro e w9 ⟨rfl, hb⟩
   replace HBr := Lib.hid (HBr.out.trans (hb.mono HBr.out.size))
   clear hb c1
   go_upto_region 22 with fail
   obtain ⟨wA, hwA⟩ : ∃ y, y = w9.alloc (.cells #[.int .i64 qk, .int .i64 qc, .int .u32 qp, .int .u32 ql, .int .u64 qt, .string qb] 41) := ⟨_, rfl⟩
   have PB := Lib.hid (show Blk wA w9.heap.size 41 #[.int .i64 qk, .int .i64 qc, .int .u32 qp, .int .u32 ql, .int .u64 qt, .string qb] by rw [hwA]; exact Blk.new _ _ _)
   have HBA := Lib.hid (show Below w.heap.size w wA by rw [hwA]; exact HBr.out.alloc HBr.out.size _)
   rw [← hwA]
   clear hwA HBr
   have p0 := PB.out.cell 0
   have p1 := PB.out.cell 1
   have p2 := PB.out.cell 2
   have p3 := PB.out.cell 3
   have p4 := PB.out.cell 4
   have p5 := PB.out.cell 5
   simp at p0 p1 p2 p3 p4 p5
   go_wp2_with fail
   refine (HOf.out _).mono ?_
   rintro e w10 h
   obtain ⟨Ao, no, co, rfl, _, _, _, hb⟩ := h
   have HBo := Lib.hid (HBA.out.trans (hb.mono HBA.out.size))
   clear hb p0 p1 p2 p3 p4 p5
   go_wp2_with fail
   refine (HGd.out _).mono ?_
   rintro e w11 ⟨rfl, rfl⟩
   go_wp2_with fail
   go_ret
   exact ⟨rfl, HBo.out⟩
end Go.Proofs.YtmmjckokjmpfpaaGreat

