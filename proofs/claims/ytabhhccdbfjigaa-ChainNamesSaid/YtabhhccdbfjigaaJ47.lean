/-
  The walk of the statement ChainNames: from every start it returns true and changes no block that was there before. (Written by wip/tools/gen_chnames.py.)
-/
import Derived.Test.YtabhhccdbfjigaaJ46
import Derived.Test.YtabhhccdbfjigaaJ7
import Derived.Deep.CutRange
namespace Go.Proofs.Ytabhhccdbfjigaa
open Go.RowKit
open Go.Lib hiding intOf
set_option linter.unusedVariables false
set_option linter.unusedSimpArgs false
attribute [local go_sem ↓] Go.wp_at_zero Go.wp_at_succ

theorem blk_readsN {w : World} {g : Nat} {t : TypeId} {cs : Array Value} {n : Nat} {l : List Nat} (h : Blk w g t cs) (hc : cs.toList = ucells l) (hl : l.length = n) : Reads w w.heap.size 1 (some ⟨g, 0, none⟩) n (ucells l) := by
  have h2 := reads_own (n := n) (k := 1) h (by have := congrArg List.length hc; simp [ucells_length, hl] at this; omega)
  rw [hc] at h2
  exact h2.more h.lt
theorem blk_pageN {w : World} {g : Nat} {t : TypeId} {cs : Array Value} {l : List Pg} {n : Nat} (h : Blk w g t cs) (hc : cs.toList = pgcs l) (hn : cs.size = n * 6) : Reads w w.heap.size 6 (some ⟨g, 0, none⟩) n (pgcs l) := by
  have h2 := reads_own (n := n) (k := 6) h hn
  rw [hc] at h2
  exact h2.more h.lt
set_option maxRecDepth 100000 in
set_option maxHeartbeats 51200000 in
theorem chnames_walk (w : World) :
    Calls Try.prog 3 #[] w fun e w' => e = .returned (.bool true) ∧ Below w.heap.size w w' := by
  have hT := fun w => times_any ⟨#[118]⟩ 105 w (by decide) (by decide)
  obtain ⟨V, hV⟩ : ∃ V, V = reps ⟨#[118]⟩ 105 := ⟨_, rfl⟩
  have hVs : V.size = 105 := by rw [hV, reps_size]; rfl
  rw [← hV] at hT
  have hneed : needN 128 (V.size : Int) ≤ 12 := by rw [hVs]; decide
  obtain ⟨L, M, im, lay, a1, a2, a3, a4, a5, a6, a7, a8, a9, ⟨p1, a10, a11⟩, a12, a13, a14, a15, a16, a17, a18, a19, a20, a21, a22⟩ := names_all hVs
  have hPg := fun w => hpages_any 128 3 2 V w (by decide) (by omega) (fun _ => hneed)
  rw [a1] at hPg
  have hL1 := fun (A : Option Addr) (c : Nat) (w : World) (hr : Reads w w.heap.size 6 A 2 (pgcs L)) => hlay_any 128 ⟨#[]⟩ A 2 c L w (by decide) hr (by decide)
  rw [(lay_yes a2).1, (lay_yes a2).2] at hL1
  have hR1 := fun w => hread_any 128 im 2 105 w (by omega) (by decide) (by decide)
  rw [a4, (rd_some _ _).1, (rd_some _ _).2.1, (rd_some _ _).2.2] at hR1
  have hR2 := fun w => hread_any 128 im 2 104 w (by omega) (by decide) (by decide)
  rw [a5, rd_none.1, rd_none.2.1, rd_none.2.2] at hR2
  have hR3 := fun w => hread_any 128 im 3 105 w (by omega) (by decide) (by decide)
  rw [a6, rd_none.1, rd_none.2.1, rd_none.2.2] at hR3
  have hR4 := fun w => hread_any 100 im 2 105 w (by omega) (by decide) (by decide)
  rw [readV_bad (size := 100) rfl, rd_none.1, rd_none.2.1, show rdErr 100 (none : Option (ByteArray × List Nat)) = 2 from rfl] at hR4
  have hR5 := fun w => hread_any 128 im 0 1 w (by omega) (by decide) (by decide)
  rw [a7, rd_none.1, rd_none.2.1, rd_none.2.2] at hR5
  have hLs := fun (A : Option Addr) (c : Nat) (A2 : Option Addr) (c2 : Nat) (w : World) (hr : Reads w w.heap.size 1 A 2 (ucells [9, 8])) (hr2 : Reads w w.heap.size 1 A2 3 (ucells [20, 30, 40])) (hc : 3 ≤ c2) => hlists_any 128 3 A 2 c [9, 8] A2 3 c2 [20, 30, 40] w hr (by decide) hr2 (by decide) hc
  rw [a8] at hLs
  have hL2 := fun (A : Option Addr) (c : Nat) (w : World) (hr : Reads w w.heap.size 6 A 2 (pgcs M)) => hlay_any 128 im A 2 c M w (by omega) hr (by decide)
  rw [(lay_yes a12).1, (lay_yes a12).2] at hL2
  have hG1 := fun w => (hlist_any 128 lay 9 w (by omega) (by decide)).mono fun _ _ h => listpost_any h
  rw [a14, show ldErr 128 (some ([20, 30, 40], [9, 8])) = 0 from rfl, show ldNs (some ([20, 30, 40], [9, 8])) = [20, 30, 40] from rfl, show ldPs (some ([20, 30, 40], [9, 8])) = [9, 8] from rfl] at hG1
  have hG2 := fun w => (hlist_any 128 lay 0 w (by omega) (by decide)).mono fun _ _ h => listpost_any h
  rw [a15, show ldErr 128 (some (([] : List Nat), ([] : List Nat))) = 0 from rfl, show ldNs (some (([] : List Nat), ([] : List Nat))) = [] from rfl, show ldPs (some (([] : List Nat), ([] : List Nat))) = [] from rfl] at hG2
  have hG3 := fun w => (hlist_any 128 lay 2 w (by omega) (by decide)).mono fun _ _ h => listpost_any h
  rw [a16, show ldErr 128 none = 4 from rfl] at hG3
  have hO1 := fun (A : Option Addr) (c : Nat) (w : World) (hr : Reads w w.heap.size 1 A 1 (ucells [7])) => hon_any 128 3 A 1 c [7] V w hr (by decide) (by omega)
  rw [a17] at hO1
  have hO2 := fun (A : Option Addr) (c : Nat) (w : World) (hr : Reads w w.heap.size 1 A 2 (ucells [7, 7])) => hon_any 128 3 A 2 c [7, 7] V w hr (by decide) (by omega)
  rw [a18] at hO2
  have hLz := fun (A2 : Option Addr) (c2 : Nat) (w : World) (hr2 : Reads w w.heap.size 1 A2 3 (ucells [20, 30, 40])) (hc : 3 ≤ c2) => hlists_any 128 3 none 0 0 [] A2 3 c2 [20, 30, 40] w Reads.none_ (by decide) hr2 (by decide) hc
  rw [a19] at hLz
  have hL3 := fun (A : Option Addr) (c : Nat) (w : World) (hr : Reads w w.heap.size 6 A 1 (pgcs [Pg.zero])) => hlay_any 128 ⟨#[]⟩ A 1 c [Pg.zero] w (by decide) hr (by decide)
  rw [(lay_no a21).1, (lay_no a21).2] at hL3
  have hKs := fun w => hlinks_any 128 im 2 6 w (by omega) (by decide)
  rw [a20] at hKs
  have hs1 := fun w => str_eqleq V w
  obtain ⟨hzp, hi⟩ := zero_of_info infoPg
  have HI := Lib.hid hi
  have his : (im.size : Int) = 512 := by omega
  have LL := Lib.hid a22
  have LM := Lib.hid a9
  have LM1 := Lib.hid a10
  have LC := Lib.hid a11
  clear hi hV hVs hneed a1 a2 a4 a5 a6 a7 a8 a9 a10 a11 a12 a13 a14 a15 a16 a17 a18 a19 a20 a21 a22
  have HB := Lib.hid (Below.refl w.heap.size w)
  go_enter Try.func3, Try.ntmps3
  go_wp2_with fail
  refine (lives11_any _).mono ?_
  rintro e w1 ⟨rfl, hb⟩
  replace HB := Lib.hid (HB.out.trans (hb.mono HB.out.size))
  clear hb 
  go_wp2_with fail
  refine (hT _).mono ?_
  rintro e wT ⟨rfl, rfl⟩
  clear hT
  go_wp2_with fail
  refine (hPg _).mono ?_
  rintro e w2 ⟨B2, m2, d2, rfl, hr, hb⟩
  replace HB := Lib.hid (HB.out.trans (hb.mono HB.out.size))
  have R2 := Lib.hid hr
  clear hr
  clear hb hPg
  obtain rfl : 2 = m2 := LL.out.symm.trans (pgcs_len R2.out)
  go_wp2_with fail
  refine (hL1 _ _ _ R2.out).mono ?_
  rintro e w3 ⟨rfl, hb⟩
  replace HB := Lib.hid (HB.out.trans (hb.mono HB.out.size))
  replace R2 := Lib.hid ((R2.out.below hb).more hb.size)
  clear hb hL1
  go_wp2_with fail
  clear R2
  refine (hR1 _).mono ?_
  rintro e w4 ⟨B4, m4, d4, rfl, hr, hb⟩
  replace HB := Lib.hid (HB.out.trans (hb.mono HB.out.size))
  have R4 := Lib.hid hr
  clear hr
  clear hb hR1
  obtain rfl : 2 = m4 := ulen R4.out
  go_wp2_with fail
  refine (hR2 _).mono ?_
  rintro e w5 ⟨B5, m5, d5, rfl, hr, hb⟩
  replace HB := Lib.hid (HB.out.trans (hb.mono HB.out.size))
  replace R4 := Lib.hid ((R4.out.below hb).more hb.size)
  clear hb hr hR2
  go_wp2_with fail
  refine (hR3 _).mono ?_
  rintro e w6 ⟨B6, m6, d6, rfl, hr, hb⟩
  replace HB := Lib.hid (HB.out.trans (hb.mono HB.out.size))
  replace R4 := Lib.hid ((R4.out.below hb).more hb.size)
  clear hb hr hR3
  go_wp2_with fail
  refine (hR4 _).mono ?_
  rintro e w7 ⟨B7, m7, d7, rfl, hr, hb⟩
  replace HB := Lib.hid (HB.out.trans (hb.mono HB.out.size))
  replace R4 := Lib.hid ((R4.out.below hb).more hb.size)
  clear hb hr hR4
  go_wp2_with fail
  refine (hR5 _).mono ?_
  rintro e w8 ⟨B8, m8, d8, rfl, hr, hb⟩
  replace HB := Lib.hid (HB.out.trans (hb.mono HB.out.size))
  replace R4 := Lib.hid ((R4.out.below hb).more hb.size)
  clear hb hr hR5
  go_upto_region 12 with fail
  obtain ⟨w9, hw9⟩ : ∃ x, x = w8.alloc (.cells #[.int .u32 20, .int .u32 30, .int .u32 40] 29) := ⟨_, rfl⟩
  have hb : Below w8.heap.size w8 w9 := by rw [hw9]; exact (Below.refl _ _).alloc (Nat.le_refl _) _
  replace HB := Lib.hid (HB.out.trans (hb.mono HB.out.size))
  replace R4 := Lib.hid ((R4.out.below hb).more hb.size)
  have R9 := Lib.hid (show Reads w9 w9.heap.size 1 (some ⟨w8.heap.size, 0, none⟩) 3 (ucells [20, 30, 40]) by rw [hw9]; exact blk_readsN (Blk.new _ _ _) rfl rfl)
  rw [← hw9]
  clear hb hw9
  generalize w8.heap.size = gR9 at *
  go_wp2_with fail
  obtain ⟨wa, hwa⟩ : ∃ x, x = w9.alloc (.cells #[.int .u32 9, .int .u32 8] 29) := ⟨_, rfl⟩
  have hb : Below w9.heap.size w9 wa := by rw [hwa]; exact (Below.refl _ _).alloc (Nat.le_refl _) _
  replace HB := Lib.hid (HB.out.trans (hb.mono HB.out.size))
  replace R4 := Lib.hid ((R4.out.below hb).more hb.size)
  replace R9 := Lib.hid ((R9.out.below hb).more hb.size)
  have Ra := Lib.hid (show Reads wa wa.heap.size 1 (some ⟨w9.heap.size, 0, none⟩) 2 (ucells [9, 8]) by rw [hwa]; exact blk_readsN (Blk.new _ _ _) rfl rfl)
  rw [← hwa]
  clear hb hwa
  generalize w9.heap.size = gRa at *
  refine (hLs _ _ _ _ _ Ra.out R9.out (by decide)).mono ?_
  rintro e wb ⟨Bb, mb, db, rfl, hr, hb⟩
  replace HB := Lib.hid (HB.out.trans (hb.mono HB.out.size))
  replace R4 := Lib.hid ((R4.out.below hb).more hb.size)
  replace R9 := Lib.hid ((R9.out.below hb).more hb.size)
  replace Ra := Lib.hid ((Ra.out.below hb).more hb.size)
  have Rb := Lib.hid hr
  clear hr
  clear hb hLs
  obtain rfl : 2 = mb := LM.out.symm.trans (pgcs_len Rb.out)
  go_wp2_with fail
  clear Ra
  refine (hL2 _ _ _ Rb.out).mono ?_
  rintro e wc ⟨rfl, hb⟩
  replace HB := Lib.hid (HB.out.trans (hb.mono HB.out.size))
  replace R4 := Lib.hid ((R4.out.below hb).more hb.size)
  replace R9 := Lib.hid ((R9.out.below hb).more hb.size)
  replace Rb := Lib.hid ((Rb.out.below hb).more hb.size)
  clear hb hL2
  go_wp2_with fail
  refine (hG1 _).mono ?_
  rintro e wd ⟨Bd, md, dd, Bd2, md2, dd2, rfl, hr, hr2, hb⟩
  replace HB := Lib.hid (HB.out.trans (hb.mono HB.out.size))
  replace R4 := Lib.hid ((R4.out.below hb).more hb.size)
  replace R9 := Lib.hid ((R9.out.below hb).more hb.size)
  replace Rb := Lib.hid ((Rb.out.below hb).more hb.size)
  have Rd := Lib.hid hr
  clear hr
  have Re := Lib.hid hr2
  clear hr2
  clear hb hG1
  obtain rfl : 3 = md := ulen Rd.out
  obtain rfl : 2 = md2 := ulen Re.out
  go_wp2_with fail
  refine (hG2 _).mono ?_
  rintro e we ⟨Be, me, de, Be2, me2, de2, rfl, hr, hr2, hb⟩
  replace HB := Lib.hid (HB.out.trans (hb.mono HB.out.size))
  replace R4 := Lib.hid ((R4.out.below hb).more hb.size)
  replace R9 := Lib.hid ((R9.out.below hb).more hb.size)
  replace Rb := Lib.hid ((Rb.out.below hb).more hb.size)
  replace Rd := Lib.hid ((Rd.out.below hb).more hb.size)
  replace Re := Lib.hid ((Re.out.below hb).more hb.size)
  have Rf := Lib.hid hr
  clear hr
  have Rg := Lib.hid hr2
  clear hr2
  clear hb hG2
  obtain rfl : 0 = me := ulen Rf.out
  obtain rfl : 0 = me2 := ulen Rg.out
  clear Rf Rg
  go_wp2_with fail
  refine (hG3 _).mono ?_
  rintro e wf ⟨Bf, mf, df, Bf2, mf2, df2, rfl, hr, hr2, hb⟩
  replace HB := Lib.hid (HB.out.trans (hb.mono HB.out.size))
  replace R4 := Lib.hid ((R4.out.below hb).more hb.size)
  replace R9 := Lib.hid ((R9.out.below hb).more hb.size)
  replace Rb := Lib.hid ((Rb.out.below hb).more hb.size)
  replace Rd := Lib.hid ((Rd.out.below hb).more hb.size)
  replace Re := Lib.hid ((Re.out.below hb).more hb.size)
  clear hb hr hr2 hG3
  go_wp2_with fail
  obtain ⟨wg, hwg⟩ : ∃ x, x = wf.alloc (.cells #[.int .u32 7] 29) := ⟨_, rfl⟩
  have hb : Below wf.heap.size wf wg := by rw [hwg]; exact (Below.refl _ _).alloc (Nat.le_refl _) _
  replace HB := Lib.hid (HB.out.trans (hb.mono HB.out.size))
  replace R4 := Lib.hid ((R4.out.below hb).more hb.size)
  replace R9 := Lib.hid ((R9.out.below hb).more hb.size)
  replace Rb := Lib.hid ((Rb.out.below hb).more hb.size)
  replace Rd := Lib.hid ((Rd.out.below hb).more hb.size)
  replace Re := Lib.hid ((Re.out.below hb).more hb.size)
  have Rh := Lib.hid (show Reads wg wg.heap.size 1 (some ⟨wf.heap.size, 0, none⟩) 1 (ucells [7]) by rw [hwg]; exact blk_readsN (Blk.new _ _ _) rfl rfl)
  rw [← hwg]
  clear hb hwg
  generalize wf.heap.size = gRh at *
  refine (hO1 _ _ _ Rh.out).mono ?_
  rintro e wh ⟨rfl, hb⟩
  replace HB := Lib.hid (HB.out.trans (hb.mono HB.out.size))
  replace R4 := Lib.hid ((R4.out.below hb).more hb.size)
  replace R9 := Lib.hid ((R9.out.below hb).more hb.size)
  replace Rb := Lib.hid ((Rb.out.below hb).more hb.size)
  replace Rd := Lib.hid ((Rd.out.below hb).more hb.size)
  replace Re := Lib.hid ((Re.out.below hb).more hb.size)
  replace Rh := Lib.hid ((Rh.out.below hb).more hb.size)
  clear hb hO1
  go_wp2_with fail
  clear Rh
  obtain ⟨wi, hwi⟩ : ∃ x, x = wh.alloc (.cells #[.int .u32 7, .int .u32 7] 29) := ⟨_, rfl⟩
  have hb : Below wh.heap.size wh wi := by rw [hwi]; exact (Below.refl _ _).alloc (Nat.le_refl _) _
  replace HB := Lib.hid (HB.out.trans (hb.mono HB.out.size))
  replace R4 := Lib.hid ((R4.out.below hb).more hb.size)
  replace R9 := Lib.hid ((R9.out.below hb).more hb.size)
  replace Rb := Lib.hid ((Rb.out.below hb).more hb.size)
  replace Rd := Lib.hid ((Rd.out.below hb).more hb.size)
  replace Re := Lib.hid ((Re.out.below hb).more hb.size)
  have Ri := Lib.hid (show Reads wi wi.heap.size 1 (some ⟨wh.heap.size, 0, none⟩) 2 (ucells [7, 7]) by rw [hwi]; exact blk_readsN (Blk.new _ _ _) rfl rfl)
  rw [← hwi]
  clear hb hwi
  generalize wh.heap.size = gRi at *
  refine (hO2 _ _ _ Ri.out).mono ?_
  rintro e wj ⟨rfl, hb⟩
  replace HB := Lib.hid (HB.out.trans (hb.mono HB.out.size))
  replace R4 := Lib.hid ((R4.out.below hb).more hb.size)
  replace R9 := Lib.hid ((R9.out.below hb).more hb.size)
  replace Rb := Lib.hid ((Rb.out.below hb).more hb.size)
  replace Rd := Lib.hid ((Rd.out.below hb).more hb.size)
  replace Re := Lib.hid ((Re.out.below hb).more hb.size)
  replace Ri := Lib.hid ((Ri.out.below hb).more hb.size)
  clear hb hO2
  go_wp2_with fail
  clear Ri
  refine (hLz _ _ _ R9.out (by decide)).mono ?_
  rintro e wk ⟨rfl, hb⟩
  replace HB := Lib.hid (HB.out.trans (hb.mono HB.out.size))
  replace R4 := Lib.hid ((R4.out.below hb).more hb.size)
  replace R9 := Lib.hid ((R9.out.below hb).more hb.size)
  replace Rb := Lib.hid ((Rb.out.below hb).more hb.size)
  replace Rd := Lib.hid ((Rd.out.below hb).more hb.size)
  replace Re := Lib.hid ((Re.out.below hb).more hb.size)
  clear hb hLz
  go_wp2_with fail
  obtain ⟨wl, hwl⟩ : ∃ x, x = wk.alloc (.cells #[.int .i64 0, .int .i64 0, .int .u32 0, .int .u32 0, .int .u64 0, .string ByteArray.empty] 40) := ⟨_, rfl⟩
  have hb : Below wk.heap.size wk wl := by rw [hwl]; exact (Below.refl _ _).alloc (Nat.le_refl _) _
  replace HB := Lib.hid (HB.out.trans (hb.mono HB.out.size))
  replace R4 := Lib.hid ((R4.out.below hb).more hb.size)
  replace R9 := Lib.hid ((R9.out.below hb).more hb.size)
  replace Rb := Lib.hid ((Rb.out.below hb).more hb.size)
  replace Rd := Lib.hid ((Rd.out.below hb).more hb.size)
  replace Re := Lib.hid ((Re.out.below hb).more hb.size)
  have Rl := Lib.hid (show Reads wl wl.heap.size 6 (some ⟨wk.heap.size, 0, none⟩) 1 (pgcs [Pg.zero]) by rw [hwl]; exact blk_pageN (Blk.new _ _ _) rfl (by rfl))
  rw [← hwl]
  clear hb hwl
  generalize wk.heap.size = gRl at *
  refine (hL3 _ _ _ Rl.out).mono ?_
  rintro e wm ⟨rfl, hb⟩
  replace HB := Lib.hid (HB.out.trans (hb.mono HB.out.size))
  replace R4 := Lib.hid ((R4.out.below hb).more hb.size)
  replace R9 := Lib.hid ((R9.out.below hb).more hb.size)
  replace Rb := Lib.hid ((Rb.out.below hb).more hb.size)
  replace Rd := Lib.hid ((Rd.out.below hb).more hb.size)
  replace Re := Lib.hid ((Re.out.below hb).more hb.size)
  replace Rl := Lib.hid ((Rl.out.below hb).more hb.size)
  clear hb hL3
  go_wp2_with fail
  clear Rl
  refine (hKs _).mono ?_
  rintro e wn ⟨Bn, mn, dn, rfl, hr, hb⟩
  replace HB := Lib.hid (HB.out.trans (hb.mono HB.out.size))
  replace R4 := Lib.hid ((R4.out.below hb).more hb.size)
  replace R9 := Lib.hid ((R9.out.below hb).more hb.size)
  replace Rb := Lib.hid ((Rb.out.below hb).more hb.size)
  replace Rd := Lib.hid ((Rd.out.below hb).more hb.size)
  replace Re := Lib.hid ((Re.out.below hb).more hb.size)
  have Rn := Lib.hid hr
  clear hb hr hKs
  obtain rfl : 1 = mn := lkc_len Rn.out
  obtain ⟨adb, pb, rfl, hgb, hpb, hcb⟩ := page_at Rb.out (show 1 < 2 by decide)
  rw [LM1.out] at hpb
  injection hpb with hpb
  subst hpb
  have e1 := hcb.2.1
  rw [LC.out] at e1
  obtain ⟨adn, pn, rfl, hgn, hpn, hcn⟩ := link_at Rn.out (show 0 < 1 by decide)
  injection hpn with hpn
  subst hpn
  have e2 := hcn.2
  obtain ⟨⟨c0, c1, c2, c3, c4, c5⟩, _⟩ := hcn
  simp [Addr.add] at e1 e2 c0 c1 c2 c3 c4 c5
  replace c0 : wn.cell? adn = some (.int .i64 0) := c0
  replace c1 : wn.cell? ⟨adn.block, adn.off + 1, none⟩ = some (.int .i64 0) := c1
  replace c2 : wn.cell? ⟨adn.block, adn.off + 2, none⟩ = some (.int .u32 0) := c2
  replace c3 : wn.cell? ⟨adn.block, adn.off + 3, none⟩ = some (.int .u32 0) := c3
  replace c4 : wn.cell? ⟨adn.block, adn.off + 4, none⟩ = some (.int .u64 0) := c4
  replace c5 : wn.cell? ⟨adn.block, adn.off + 5, none⟩ = some (.string ByteArray.empty) := c5
  rw [block_add] at hgb hgn
  have SX := Lib.hid (fun (wx : World) (hb : Below wn.heap.size wn wx) => (And.intro ((hb.cell (p := ⟨adb.block, adb.off + 6 + 1, none⟩) hgb).trans e1) (And.intro ((hb.cell (p := ⟨adn.block, adn.off + 6, none⟩) hgn).trans e2) (And.intro ((hb.cell (p := adn) hgn).trans c0) (And.intro ((hb.cell (p := ⟨adn.block, adn.off + 1, none⟩) hgn).trans c1) (And.intro ((hb.cell (p := ⟨adn.block, adn.off + 2, none⟩) hgn).trans c2) (And.intro ((hb.cell (p := ⟨adn.block, adn.off + 3, none⟩) hgn).trans c3) (And.intro ((hb.cell (p := ⟨adn.block, adn.off + 4, none⟩) hgn).trans c4) ((hb.cell (p := ⟨adn.block, adn.off + 5, none⟩) hgn).trans c5)))))))))
  have HBn := Lib.hid (Below.refl wn.heap.size wn)
  obtain ⟨Nn, hNn⟩ : ∃ x, x = wn.heap.size := ⟨_, rfl⟩
  have HSn := Lib.hid (show Nn ≤ wn.heap.size from Nat.le_of_eq hNn)
  rw [← hNn] at SX HBn
  clear hNn
  clear e1 e2 c0 c1 c2 c3 c4 c5 hgb hgn hcb Rb Rn
  go_wp2_with fail
  obtain ⟨y1, hy1⟩ : ∃ x, x = wn.alloc (.cells #[.int .u32 2, .int .u32 3] 29) := ⟨_, rfl⟩
  have hb : Below wn.heap.size wn y1 := by rw [hy1]; exact (Below.refl _ _).alloc (Nat.le_refl _) _
  replace HB := Lib.hid (HB.out.trans (hb.mono HB.out.size))
  replace HBn := Lib.hid (HBn.out.trans (hb.mono HSn.out))
  replace HSn := Lib.hid (Nat.le_trans HSn.out hb.size)
  replace R4 := Lib.hid ((R4.out.below hb).more hb.size)
  replace R9 := Lib.hid ((R9.out.below hb).more hb.size)
  replace Rd := Lib.hid ((Rd.out.below hb).more hb.size)
  replace Re := Lib.hid ((Re.out.below hb).more hb.size)
  have Rq := Lib.hid (show Reads y1 y1.heap.size 1 (some ⟨wn.heap.size, 0, none⟩) 2 (ucells [2, 3]) by rw [hy1]; exact blk_readsN (Blk.new _ _ _) rfl rfl)
  rw [← hy1]
  clear hb hy1
  generalize wn.heap.size = gRq at *
  refine (sameU_yes B4 2 d4 _ 2 [2, 3] _ R4.out Rq.out (by decide)).mono ?_
  rintro e y2 ⟨rfl, q, hq⟩
  have hb : Below y1.heap.size y1 y2 := by rw [hq]; exact below_drewN (Below.refl _ _) q
  replace HB := Lib.hid (HB.out.trans (hb.mono HB.out.size))
  replace HBn := Lib.hid (HBn.out.trans (hb.mono HSn.out))
  replace HSn := Lib.hid (Nat.le_trans HSn.out hb.size)
  replace R4 := Lib.hid ((R4.out.below hb).more hb.size)
  replace R9 := Lib.hid ((R9.out.below hb).more hb.size)
  replace Rd := Lib.hid ((Rd.out.below hb).more hb.size)
  replace Re := Lib.hid ((Re.out.below hb).more hb.size)
  replace Rq := Lib.hid ((Rq.out.below hb).more hb.size)
  clear hb hq q
  clear R4 Rq
  obtain ⟨e1, e2, c0, c1, c2, c3, c4, c5⟩ := SX.out _ HBn.out
  go_wp2_with fail
  clear e1 e2 c0 c1 c2 c3 c4 c5
  refine (sameU_yes Bd 3 dd _ 3 [20, 30, 40] _ Rd.out R9.out (by decide)).mono ?_
  rintro e y3 ⟨rfl, q, hq⟩
  have hb : Below y2.heap.size y2 y3 := by rw [hq]; exact below_drewN (Below.refl _ _) q
  replace HB := Lib.hid (HB.out.trans (hb.mono HB.out.size))
  replace HBn := Lib.hid (HBn.out.trans (hb.mono HSn.out))
  replace HSn := Lib.hid (Nat.le_trans HSn.out hb.size)
  replace R9 := Lib.hid ((R9.out.below hb).more hb.size)
  replace Rd := Lib.hid ((Rd.out.below hb).more hb.size)
  replace Re := Lib.hid ((Re.out.below hb).more hb.size)
  clear hb hq q
  clear Rd R9
  go_wp2_with fail
  obtain ⟨y4, hy4⟩ : ∃ x, x = y3.alloc (.cells #[.int .u32 9, .int .u32 8] 29) := ⟨_, rfl⟩
  have hb : Below y3.heap.size y3 y4 := by rw [hy4]; exact (Below.refl _ _).alloc (Nat.le_refl _) _
  replace HB := Lib.hid (HB.out.trans (hb.mono HB.out.size))
  replace HBn := Lib.hid (HBn.out.trans (hb.mono HSn.out))
  replace HSn := Lib.hid (Nat.le_trans HSn.out hb.size)
  replace Re := Lib.hid ((Re.out.below hb).more hb.size)
  have Rr := Lib.hid (show Reads y4 y4.heap.size 1 (some ⟨y3.heap.size, 0, none⟩) 2 (ucells [9, 8]) by rw [hy4]; exact blk_readsN (Blk.new _ _ _) rfl rfl)
  rw [← hy4]
  clear hb hy4
  generalize y3.heap.size = gRr at *
  refine (sameU_yes Bd2 2 dd2 _ 2 [9, 8] _ Re.out Rr.out (by decide)).mono ?_
  rintro e y5 ⟨rfl, q, hq⟩
  have hb : Below y4.heap.size y4 y5 := by rw [hq]; exact below_drewN (Below.refl _ _) q
  replace HB := Lib.hid (HB.out.trans (hb.mono HB.out.size))
  replace HBn := Lib.hid (HBn.out.trans (hb.mono HSn.out))
  replace HSn := Lib.hid (Nat.le_trans HSn.out hb.size)
  replace Re := Lib.hid ((Re.out.below hb).more hb.size)
  replace Rr := Lib.hid ((Rr.out.below hb).more hb.size)
  clear hb hq q
  clear Re Rr
  obtain ⟨e1, e2, c0, c1, c2, c3, c4, c5⟩ := SX.out _ HBn.out
  go_wp2_with fail
  go_ret
  exact ⟨rfl, HB.out⟩
end Go.Proofs.Ytabhhccdbfjigaa
