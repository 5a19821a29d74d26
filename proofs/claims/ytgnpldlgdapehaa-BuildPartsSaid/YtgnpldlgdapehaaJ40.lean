/-
  The walk of the statement BuildParts: from every start, at every argument, it returns true and changes no block that was there before.
-/
import Derived.Test.YtgnpldlgdapehaaJ27
import Derived.Test.YtgnpldlgdapehaaJ36
import Derived.Test.YtgnpldlgdapehaaJ37
import Derived.Test.YtgnpldlgdapehaaJ10
import Derived.Test.YtgnpldlgdapehaaJ38
import Derived.Test.YtgnpldlgdapehaaJ9
import Derived.Test.YtgnpldlgdapehaaJ39
import Derived.Test.YtgnpldlgdapehaaJ3
set_option linter.unusedVariables false
set_option linter.unusedSimpArgs false
namespace Go.Proofs.Ytgnpldlgdapehaa
open Go.RowKit
attribute [local go_sem ↓] Go.wp_at_zero Go.wp_at_succ

theorem upN (l : List Nat) : ncells l = icells (l.map upI) := icells_of l
theorem errno_eq13 (a : Int) (w : World) : (binOp .eql 31 (.int .i64 a) (.int .i64 a)).run Try.prog w = .ok (.bool true) w := by
 simp [go_sem]
theorem nodesI_flat {size : Int} {l : List It} : (nodesI size l).2.flatten.length ≤ l.length := by
 unfold nodesI
 split
 ·split
  ·simp
  ·rename_i h
   rename_i hc
   rcases hg : goodSize size with _ | _
   ·rw [hg] at hc; simp at hc
   ·obtain ⟨z, rfl, h1, h2, _⟩ := good_nat hg
    have e : ((z : Int) - 24) = ((z - 24 : Nat) : Int) := by omega
    rw [e] at h ⊢
    rw [(cutPI_greedy (cutPI_fine h).2).2]
    exact Nat.le_refl _
 ·simp
theorem nodesF_flat {size : Int} {l : List Fk} : (nodesF size l).2.flatten.length ≤ l.length := by
 unfold nodesF
 split
 ·split
  ·simp
  ·rename_i h
   rename_i hc
   rcases hg : goodSize size with _ | _
   ·rw [hg] at hc; simp at hc
   ·obtain ⟨z, rfl, h1, h2, _⟩ := good_nat hg
    have e : ((z : Int) - 24) = ((z - 24 : Nat) : Int) := by omega
    rw [e] at h ⊢
    rw [(cutPF_greedy (cutPF_fine h).2).2]
    exact Nat.le_refl _
 ·simp
theorem sizeI_light {l : List It} (h : lightI l = true) : sizeI l ≤ 9007199254740992 := by
 have h1 : ∀ m : List It, sizeI m ≤ sumI m + 10 * m.length := by
  intro m
  induction m with
  | nil => simp [sizeI]
  | cons b m ih =>
   simp only [sizeI, sumI, List.length_cons]
   have : oneI b ≤ b.ky.size + b.vl.size + 10 := by unfold oneI; split <;> omega
   omega
 simp [lightI] at h
 have := h1 l
 omega
theorem sizeF_100 {l : List Fk} (hl : l.length ≤ 100) (h : ∀ b ∈ l, b.nm.size ≤ 100) : sizeF l ≤ 9007199254740992 := by
 have h1 : ∀ m : List Fk, (∀ b ∈ m, b.nm.size ≤ 100) → sizeF m ≤ 105 * m.length := by
  intro m
  induction m with
  | nil => simp [sizeF]
  | cons b m ih =>
   intro h
   have h2 := ih (fun c hc => h c (List.mem_cons_of_mem _ hc))
   have h3 := h b (by simp)
   simp only [sizeF, List.length_cons]
   omega
 have := h1 l h
 omega
set_option maxRecDepth 100000 in
set_option maxHeartbeats 25600000 in
theorem buparts_main (As : Option Addr) (ns cs : Nat) (zs : List Int) (room size : Int) (A : Option Addr) (n c : Nat) (l : List It) (B : Option Addr) (m d : Nat) (k : List Fk) (w : World)
  (hs : Reads w w.heap.size 1 As ns (icells zs)) (hsw : ∀ z ∈ zs, -9223372036854775808 ≤ z ∧ z ≤ 9223372036854775807) (hr1 : -9223372036854775808 ≤ room) (hr2 : room ≤ 9223372036854775807)
  (hl : Reads w w.heap.size 5 A n (itc l)) (hnc : n ≤ c) (hlx : NearI l) (hk : Reads w w.heap.size 2 B m (fkc k)) (hmd : m ≤ d) (h100 : ns ≤ 100) (hlt : lightI l = true) (hm : m ≤ 100) :
  Calls Try.prog 3 #[.slice As ns cs, .int .i64 room, .int .i64 size, .slice A n c, .slice B m d] w fun e w' => e = .returned (.bool true) ∧ Below w.heap.size w w' := by
 have HS := Lib.hid hs
 have HSW := Lib.hid hsw
 have HL := Lib.hid hl
 have HX := Lib.hid hlx
 have HK := Lib.hid hk
 have HLt := Lib.hid hlt
 have hn : n ≤ 100 := by have := it_len hl; simp [lightI] at hlt; omega
 have g1 : decide ((100 : Int) < (ns : Int)) = false := by simp; omega
 have g2 : decide (100 < ns) = false := by simp; omega
 have g3 : decide ((100 : Int) < (m : Int)) = false := by simp; omega
 have g4 : decide (100 < m) = false := by simp; omega
 have g5 : ¬ (100 : Int) < (ns : Int) := by omega
 have g6 : ¬ (100 : Int) < (m : Int) := by omega
 have HB := Lib.hid (Below.refl w.heap.size w)
 clear hs hsw hl hlx hk hlt
 go_enter Try.func3, Try.ntmps3
 go_wp2_with fail
 refine (lives13_any _).mono ?_
 rintro e w1 ⟨rfl, hb⟩
 replace HB := Lib.hid (HB.out.trans (hb.mono HB.out.size))
 replace HS := Lib.hid ((HS.out.below hb).more hb.size)
 replace HL := Lib.hid ((HL.out.below hb).more hb.size)
 replace HK := Lib.hid ((HK.out.below hb).more hb.size)
 clear hb
 go_wp2_with fail
 refine (lightI_any A n c l _ HL.out (by omega) HX.out).mono ?_
 rintro e w2 ⟨rfl, q, rfl⟩
 rw [HLt.out]
 replace HB := Lib.hid (below_drewN HB.out q)
 replace HS := Lib.hid (HS.out.drewN q)
 replace HL := Lib.hid (HL.out.drewN q)
 replace HK := Lib.hid (HK.out.drewN q)
 obtain ⟨w3, hw3⟩ : ∃ y, y = w1.drewN q := ⟨_, rfl⟩
 have hz3 : w3.heap.size = w1.heap.size := by rw [hw3]; rfl
 rw [← hz3] at HS HL HK
 rw [← hw3] at HS HL HK HB ⊢
 clear hw3 hz3
 go_wp2_with fail
 clear g1 g2 g3 g4 g5 g6
 go_loopw [11] (fun vi wr => ∃ i : Nat, i ≤ ns ∧ vi = .int .i64 i ∧ wr = w3) (fun vi _ => ns - (RowKit.intOf vi).toNat)
 case atStart => exact ⟨0, Nat.zero_le _, rfl, rfl⟩
 case round =>
  obtain ⟨i, hi, rfl, hwr⟩ := hrel
  subst hwr
  by_cases hlt : i < ns
  ·obtain ⟨ad, x, rfl, _, hx, hc⟩ := iread_at HS.out hlt
   have hxw := HSW.out x (List.mem_of_getElem? hx)
   have e1 : (0 : Int) ≤ i := by omega
   have e2 : (i : Int) < ns := by omega
   clear hx
   by_cases hbig : 1099511627776 < x
   ·go_wp2_with fail
    go_ret
    exact ⟨rfl, HB.out⟩
   ·go_wp2_with fail
    exact ⟨⟨i + 1, by omega, by go_num, by trivial⟩, by simp [RowKit.intOf]; omega⟩
  ·obtain rfl : i = ns := by omega
   have e2 : ¬ (i : Int) < i := by omega
   clear hlt hi
   go_wp2_with fail
   go_loopw [12] (fun vi wr' => ∃ j : Nat, j ≤ m ∧ vi = .int .i64 j ∧ Hid (∀ b ∈ k.take j, b.nm.size ≤ 100) ∧ Hid (wr' = wr)) (fun vi _ => m - (RowKit.intOf vi).toNat)
   case atStart => exact ⟨0, Nat.zero_le _, rfl, Lib.hid (by simp), Lib.hid rfl⟩
   case round =>
    obtain ⟨j, hj, rfl, HKs, HW⟩ := hrel
    obtain rfl := HW.out
    by_cases hlt : j < m
    ·obtain ⟨ad, x, rfl, _, _, hx, hc0, hc1⟩ := fk_at HK.out hlt
     have e1 : (0 : Int) ≤ j := by omega
     have e3 : (j : Int) < m := by omega
     have HXx := Lib.hid hx
     clear hx
     by_cases hbig : 100 < x.nm.size
     ·have b1 : (100 : Int) < (x.nm.size : Int) := by omega
      go_wp2_with fail
      go_ret
      exact ⟨rfl, HB.out⟩
     ·have b1 : ¬ (100 : Int) < (x.nm.size : Int) := by omega
      go_wp2_with fail
      refine ⟨⟨j + 1, by omega, by go_num, Lib.hid ?_, Lib.hid (by trivial)⟩, by simp [RowKit.intOf]; omega⟩
      intro b hb
      rw [List.take_add_one, HXx.out] at hb
      rcases List.mem_append.1 hb with h | h
      ·exact HKs.out b h
      ·simp at h; subst h; omega
    ·obtain rfl : j = m := by omega
     have e3 : ¬ (j : Int) < j := by omega
     have hkl := fk_len HK.out
     have hkt : k.take j = k := List.take_of_length_le (by omega)
     rw [hkt] at HKs
     have HSz := Lib.hid (sizeF_100 (l := k) (by omega) HKs.out)
     have HSi := Lib.hid (sizeI_light HLt.out)
     have HIl := Lib.hid (it_len HL.out)
     have HKl := Lib.hid hkl
     clear hlt hj hkt hkl HKs HW
     go_wp2_with fail
     refine (faceI_any size A n c l _ HL.out (by omega) hnc HX.out HSi.out).mono ?_
     rintro e w4 ⟨A4, n4, c4, v4, rfl, hr4, hn4, hb⟩
     have HR4 := Lib.hid hr4
     have HN4 := Lib.hid hn4
     replace HB := Lib.hid (HB.out.trans (hb.mono HB.out.size))
     replace HS := Lib.hid ((HS.out.below hb).more hb.size)
     replace HL := Lib.hid ((HL.out.below hb).more hb.size)
     replace HK := Lib.hid ((HK.out.below hb).more hb.size)
     clear hr4 hn4 hb
     go_wp2_with fail
     refine (rnodesI_any size A n c l _ HL.out (by omega) hnc HX.out HSi.out).mono ?_
     rintro e w5 ⟨A5, n5, c5, v5, rfl, hr5, hn5, hb⟩
     have HR5 := Lib.hid hr5
     have HN5 := Lib.hid hn5
     replace HB := Lib.hid (HB.out.trans (hb.mono HB.out.size))
     replace HS := Lib.hid ((HS.out.below hb).more hb.size)
     replace HK := Lib.hid ((HK.out.below hb).more hb.size)
     replace HR4 := Lib.hid ((HR4.out.below hb).more hb.size)
     replace HN4 := Lib.hid (HN4.out.below hb)
     clear hr5 hn5 hb HL
     go_wp2_with fail
     refine (faceF_any size B j d k _ HK.out (by omega) hmd HSz.out).mono ?_
     rintro e w6 ⟨A6, n6, c6, v6, rfl, hr6, hn6, hb⟩
     have HR6 := Lib.hid hr6
     have HN6 := Lib.hid hn6
     replace HB := Lib.hid (HB.out.trans (hb.mono HB.out.size))
     replace HS := Lib.hid ((HS.out.below hb).more hb.size)
     replace HK := Lib.hid ((HK.out.below hb).more hb.size)
     replace HR4 := Lib.hid ((HR4.out.below hb).more hb.size)
     replace HN4 := Lib.hid (HN4.out.below hb)
     replace HR5 := Lib.hid ((HR5.out.below hb).more hb.size)
     replace HN5 := Lib.hid (HN5.out.below hb)
     clear hr6 hn6 hb
     go_wp2_with fail
     refine (rnodesF_any size B j d k _ HK.out (by omega) hmd HSz.out).mono ?_
     rintro e w7 ⟨A7, n7, c7, v7, rfl, hr7, hn7, hb⟩
     have HR7 := Lib.hid hr7
     have HN7 := Lib.hid hn7
     replace HB := Lib.hid (HB.out.trans (hb.mono HB.out.size))
     replace HS := Lib.hid ((HS.out.below hb).more hb.size)
     replace HR4 := Lib.hid ((HR4.out.below hb).more hb.size)
     replace HN4 := Lib.hid (HN4.out.below hb)
     replace HR5 := Lib.hid ((HR5.out.below hb).more hb.size)
     replace HN5 := Lib.hid (HN5.out.below hb)
     replace HR6 := Lib.hid ((HR6.out.below hb).more hb.size)
     replace HN6 := Lib.hid (HN6.out.below hb)
     clear hr7 hn7 hb HK
     have hfI := nodesI_flat (size := size) (l := l)
     have hfF := nodesF_flat (size := size) (l := k)
     have hI := HIl.out
     have hF := HKl.out
     obtain ⟨eI, PI, hPI⟩ : ∃ e P, nodesI size l = (e, P) := ⟨_, _, rfl⟩
     obtain ⟨eF, PF, hPF⟩ : ∃ e P, nodesF size k = (e, P) := ⟨_, _, rfl⟩
     rw [hPI] at hfI HN4 HN5 ⊢
     rw [hPF] at hfF HN6 HN7 ⊢
     dsimp only at hfI hfF HN4 HN5 HN6 HN7 ⊢
     have HfI := Lib.hid (show PI.flatten.length ≤ 1000000 by omega)
     have HfF := Lib.hid (show PF.flatten.length ≤ 1000000 by omega)
     have H4n := Lib.hid (show n4 ≤ 1000000 by
      have := HN4.out.len HR4.out
      have h2 : (nodesI size l).2.length ≤ l.length := by
       unfold nodesI
       split
       ·split
        ·simp
        ·unfold cutP
         rw [partsBy_length]
         have := (cutL_length (l.map fun x : It => ((sizeI [x] : Nat) : Int)) (size - 24)).1
         rwa [List.length_map] at this
       ·simp
      rw [hPI] at h2
      dsimp only at h2
      omega)
     have H6n := Lib.hid (show n6 ≤ 1000000 by
      have := HN6.out.len HR6.out
      have h2 : (nodesF size k).2.length ≤ k.length := by
       unfold nodesF
       split
       ·split
        ·simp
        ·unfold cutP
         rw [partsBy_length]
         have := (cutL_length (k.map fun x : Fk => ((sizeF [x] : Nat) : Int)) (size - 24)).1
         rwa [List.length_map] at this
       ·simp
      rw [hPF] at h2
      dsimp only at h2
      omega)
     obtain rfl : n5 = n4 := by have := HN4.out.len HR4.out; have := HN5.out.len HR5.out; omega
     obtain rfl : n7 = n6 := by have := HN6.out.len HR6.out; have := HN7.out.len HR7.out; omega
     have HPIl := Lib.hid (show PI.length = n5 from HN4.out.len HR4.out)
     have HPFl := Lib.hid (show PF.length = n7 from HN6.out.len HR6.out)
     clear hfI hfF hI hF hPI hPF
     go_wp2_with fail
     refine (flatI_any A4 n5 c4 v4 PI _ HR4.out HN4.out H4n.out HfI.out).mono ?_
     rintro e w8 ⟨Xa, xa, ya, Ea, pa, qa, rfl, hu, hv, _, hb⟩
     have HUa := Lib.hid hu
     have HVa := Lib.hid hv
     clear HR4 HN4
     replace HB := Lib.hid (HB.out.trans (hb.mono HB.out.size))
     replace HS := Lib.hid ((HS.out.below hb).more hb.size)
     replace HR5 := Lib.hid ((HR5.out.below hb).more hb.size)
     replace HN5 := Lib.hid (HN5.out.below hb)
     replace HR6 := Lib.hid ((HR6.out.below hb).more hb.size)
     replace HN6 := Lib.hid (HN6.out.below hb)
     replace HR7 := Lib.hid ((HR7.out.below hb).more hb.size)
     replace HN7 := Lib.hid (HN7.out.below hb)
     clear hu hv hb
     obtain ⟨w9, hw9⟩ : ∃ y, y = w8 := ⟨_, rfl⟩
     subst hw9
     go_wp2_with fail
     refine (flatI_any A5 n5 c5 v5 PI _ HR5.out HN5.out H4n.out HfI.out).mono ?_
     rintro e w8 ⟨Xb, xb, yb, Eb, pb, qb, rfl, hu, hv, _, hb⟩
     have HUb := Lib.hid hu
     have HVb := Lib.hid hv
     clear HR5 HN5
     replace HB := Lib.hid (HB.out.trans (hb.mono HB.out.size))
     replace HS := Lib.hid ((HS.out.below hb).more hb.size)
     replace HR6 := Lib.hid ((HR6.out.below hb).more hb.size)
     replace HN6 := Lib.hid (HN6.out.below hb)
     replace HR7 := Lib.hid ((HR7.out.below hb).more hb.size)
     replace HN7 := Lib.hid (HN7.out.below hb)
     replace HUa := Lib.hid ((HUa.out.below hb).more hb.size)
     replace HVa := Lib.hid ((HVa.out.below hb).more hb.size)
     clear hu hv hb
     obtain ⟨w9, hw9⟩ : ∃ y, y = w8 := ⟨_, rfl⟩
     subst hw9
     go_wp2_with fail
     refine (flatF_any A6 n7 c6 v6 PF _ HR6.out HN6.out H6n.out HfF.out).mono ?_
     rintro e w8 ⟨Xc, xc, yc, Ec, pc, qc, rfl, hu, hv, _, hb⟩
     have HUc := Lib.hid hu
     have HVc := Lib.hid hv
     clear HR6 HN6
     replace HB := Lib.hid (HB.out.trans (hb.mono HB.out.size))
     replace HS := Lib.hid ((HS.out.below hb).more hb.size)
     replace HR7 := Lib.hid ((HR7.out.below hb).more hb.size)
     replace HN7 := Lib.hid (HN7.out.below hb)
     replace HUa := Lib.hid ((HUa.out.below hb).more hb.size)
     replace HVa := Lib.hid ((HVa.out.below hb).more hb.size)
     replace HUb := Lib.hid ((HUb.out.below hb).more hb.size)
     replace HVb := Lib.hid ((HVb.out.below hb).more hb.size)
     clear hu hv hb
     obtain ⟨w9, hw9⟩ : ∃ y, y = w8 := ⟨_, rfl⟩
     subst hw9
     go_wp2_with fail
     refine (flatF_any A7 n7 c7 v7 PF _ HR7.out HN7.out H6n.out HfF.out).mono ?_
     rintro e w8 ⟨Xd, xd, yd, Ed, pd, qd, rfl, hu, hv, _, hb⟩
     have HUd := Lib.hid hu
     have HVd := Lib.hid hv
     clear HR7 HN7
     replace HB := Lib.hid (HB.out.trans (hb.mono HB.out.size))
     replace HS := Lib.hid ((HS.out.below hb).more hb.size)
     replace HUa := Lib.hid ((HUa.out.below hb).more hb.size)
     replace HVa := Lib.hid ((HVa.out.below hb).more hb.size)
     replace HUb := Lib.hid ((HUb.out.below hb).more hb.size)
     replace HVb := Lib.hid ((HVb.out.below hb).more hb.size)
     replace HUc := Lib.hid ((HUc.out.below hb).more hb.size)
     replace HVc := Lib.hid ((HVc.out.below hb).more hb.size)
     clear hu hv hb
     obtain ⟨w9, hw9⟩ : ∃ y, y = w8 := ⟨_, rfl⟩
     subst hw9
     go_wp2_with fail
     obtain rfl : xa = xb := by have := it_len HUa.out; have := it_len HUb.out; omega
     obtain rfl : xc = xd := by have := fk_len HUc.out; have := fk_len HUd.out; omega
     obtain rfl : pa = pb := by have h1 := HVa.out.1; have h2 := HVb.out.1; omega
     obtain rfl : pc = pd := by have h1 := HVc.out.1; have h2 := HVd.out.1; omega
     have HZs := Lib.hid (show zs.length = i from iread_len HS.out)
     refine (own13_any As i cs zs _ (Nat.le_refl _) HS.out (by omega)).mono ?_
     rintro e w10 ⟨Ao, co, rfl, ho, _, hb⟩
     have HO := Lib.hid (Reads.of_own ho)
     replace HB := Lib.hid (HB.out.trans (hb.mono HB.out.size))
     replace HS := Lib.hid ((HS.out.below hb).more hb.size)
     replace HUa := Lib.hid ((HUa.out.below hb).more hb.size)
     replace HVa := Lib.hid ((HVa.out.below hb).more hb.size)
     replace HUb := Lib.hid ((HUb.out.below hb).more hb.size)
     replace HVb := Lib.hid ((HVb.out.below hb).more hb.size)
     replace HUc := Lib.hid ((HUc.out.below hb).more hb.size)
     replace HVc := Lib.hid ((HVc.out.below hb).more hb.size)
     replace HUd := Lib.hid ((HUd.out.below hb).more hb.size)
     replace HVd := Lib.hid ((HVd.out.below hb).more hb.size)
     clear ho hb
     go_wp2_with fail
     refine (cut_any Ao i co zs room _ (Nat.le_refl _) HO.out (by omega) HSW.out hr1 hr2).mono ?_
     rintro e w11 ⟨Ac, mc, cc, rfl, ho, hb⟩
     have HC := Lib.hid (Reads.of_own ho)
     clear HO
     replace HB := Lib.hid (HB.out.trans (hb.mono HB.out.size))
     replace HS := Lib.hid ((HS.out.below hb).more hb.size)
     replace HUa := Lib.hid ((HUa.out.below hb).more hb.size)
     replace HVa := Lib.hid ((HVa.out.below hb).more hb.size)
     replace HUb := Lib.hid ((HUb.out.below hb).more hb.size)
     replace HVb := Lib.hid ((HVb.out.below hb).more hb.size)
     replace HUc := Lib.hid ((HUc.out.below hb).more hb.size)
     replace HVc := Lib.hid ((HVc.out.below hb).more hb.size)
     replace HUd := Lib.hid ((HUd.out.below hb).more hb.size)
     replace HVd := Lib.hid ((HVd.out.below hb).more hb.size)
     clear ho hb
     go_wp2_with fail
     refine (rcut_any As i cs zs room _ (Nat.le_refl _) HS.out (by omega) HSW.out hr1 hr2).mono ?_
     rintro e w12 ⟨Ad, md, cd, rfl, ho, hb⟩
     have HD := Lib.hid (Reads.of_own ho)
     clear HS
     replace HB := Lib.hid (HB.out.trans (hb.mono HB.out.size))
     replace HUa := Lib.hid ((HUa.out.below hb).more hb.size)
     replace HVa := Lib.hid ((HVa.out.below hb).more hb.size)
     replace HUb := Lib.hid ((HUb.out.below hb).more hb.size)
     replace HVb := Lib.hid ((HVb.out.below hb).more hb.size)
     replace HUc := Lib.hid ((HUc.out.below hb).more hb.size)
     replace HVc := Lib.hid ((HVc.out.below hb).more hb.size)
     replace HUd := Lib.hid ((HUd.out.below hb).more hb.size)
     replace HVd := Lib.hid ((HVd.out.below hb).more hb.size)
     replace HC := Lib.hid ((HC.out.below hb).more hb.size)
     clear ho hb
     obtain rfl : mc = md := by have h1 := HC.out.1; have h2 := HD.out.1; omega
     have hmc : mc ≤ 1000000 := by
      have h1 := HC.out.1
      rw [ncells_len] at h1
      have h2 := (cutL_length zs room).1
      have := HZs.out
      omega
     have HIa := Lib.hid (show xa ≤ 1000000 by have := it_len HUa.out; have := HfI.out; omega)
     have HIc := Lib.hid (show xc ≤ 1000000 by have := fk_len HUc.out; have := HfF.out; omega)
     have HEa := Lib.hid (show pa ≤ 1000000 by
      have h1 := HVa.out.1
      rw [ncells_len] at h1
      have h2 : (endsI PI).length = PI.length := by simp [endsI]
      have h3 := H4n.out
      have h4 := HPIl.out
      omega)
     have HEc := Lib.hid (show pc ≤ 1000000 by
      have h1 := HVc.out.1
      rw [ncells_len] at h1
      have h2 : (endsF PF).length = PF.length := by simp [endsF]
      have h3 := H6n.out
      have h4 := HPFl.out
      omega)
     have eqI := fun w => errno_eq13 eI w
     have eqF := fun w => errno_eq13 eF w
     go_wp2_with fail
     refine (sameI_yes Ac mc cc Ad cd ((cutL zs room).map upI) _ (by rw [← upN]; exact HC.out) (by rw [← upN]; exact HD.out) hmc).mono ?_
     rintro e wz ⟨rfl, q1, rfl⟩
     replace HUa := Lib.hid (HUa.out.drewN q1)
     replace HVa := Lib.hid (HVa.out.drewN q1)
     replace HUb := Lib.hid (HUb.out.drewN q1)
     replace HVb := Lib.hid (HVb.out.drewN q1)
     replace HUc := Lib.hid (HUc.out.drewN q1)
     replace HVc := Lib.hid (HVc.out.drewN q1)
     replace HUd := Lib.hid (HUd.out.drewN q1)
     replace HVd := Lib.hid (HVd.out.drewN q1)
     go_wp2_with fail
     refine (same8_yes Xa xa ya Xb yb PI.flatten _ (by exact HUa.out) (by exact HUb.out) (Nat.le_trans HIa.out (by decide))).mono ?_
     rintro e wz ⟨rfl, q2, rfl⟩
     replace HVa := Lib.hid (HVa.out.drewN q2)
     replace HVb := Lib.hid (HVb.out.drewN q2)
     replace HUc := Lib.hid (HUc.out.drewN q2)
     replace HVc := Lib.hid (HVc.out.drewN q2)
     replace HUd := Lib.hid (HUd.out.drewN q2)
     replace HVd := Lib.hid (HVd.out.drewN q2)
     go_wp2_with fail
     refine (sameI_yes Ea pa qa Eb qb ((endsI PI).map upI) _ (by rw [← upN]; exact HVa.out) (by rw [← upN]; exact HVb.out) HEa.out).mono ?_
     rintro e wz ⟨rfl, q3, rfl⟩
     replace HUc := Lib.hid (HUc.out.drewN q3)
     replace HVc := Lib.hid (HVc.out.drewN q3)
     replace HUd := Lib.hid (HUd.out.drewN q3)
     replace HVd := Lib.hid (HVd.out.drewN q3)
     go_wp2_with fail
     refine (same7_yes Xc xc yc Xd yd PF.flatten _ (by exact HUc.out) (by exact HUd.out) (Nat.le_trans HIc.out (by decide))).mono ?_
     rintro e wz ⟨rfl, q4, rfl⟩
     replace HVc := Lib.hid (HVc.out.drewN q4)
     replace HVd := Lib.hid (HVd.out.drewN q4)
     go_wp2_with fail
     refine (sameI_yes Ec pc qc Ed qd ((endsF PF).map upI) _ (by rw [← upN]; exact HVc.out) (by rw [← upN]; exact HVd.out) HEc.out).mono ?_
     rintro e wz ⟨rfl, q5, rfl⟩
     go_wp2_with fail
     go_ret
     exact ⟨rfl, below_drewN HB.out _⟩
set_option maxRecDepth 100000 in
theorem buparts_walk (As : Option Addr) (ns cs : Nat) (zs : List Int) (room size : Int) (A : Option Addr) (n c : Nat) (l : List It) (B : Option Addr) (m d : Nat) (k : List Fk) (w : World)
  (hs : IsRow .i64 w As ns cs zs) (hr : (Lit.int .i64 room).wf = true) (hz : (Lit.int .i64 size).wf = true) (hl : Its w w.heap.size A n c l) (hk : Fks w w.heap.size B m d k) :
  Calls Try.prog 3 #[.slice As ns cs, .int .i64 room, .int .i64 size, .slice A n c, .slice B m d] w fun e w' => e = .returned (.bool true) ∧ Below w.heap.size w w' := by
 obtain ⟨g1, _, _, g4, g5⟩ := hs.reads
 have hrb := lit_i64' hr
 by_cases h1 : ns ≤ 100
 ·rcases h2 : lightI l with _ | _
  ·have HB := Lib.hid (Below.refl w.heap.size w)
   have HL := Lib.hid hl.1
   have HX := Lib.hid hl.near
   have HN := Lib.hid hl.2.2.2.1
   have HLt := Lib.hid h2
   have q1 : decide ((100 : Int) < (ns : Int)) = false := by simp; omega
   have q5 : ¬ (100 : Int) < (ns : Int) := by omega
   clear g1 g4 g5 hl hk hs h2 hr hz hrb
   go_enter Try.func3, Try.ntmps3
   go_wp2_with fail
   refine (lives13_any _).mono ?_
   rintro e w1 ⟨rfl, hb⟩
   replace HB := Lib.hid (HB.out.trans (hb.mono HB.out.size))
   replace HL := Lib.hid (HL.out.below hb)
   clear hb
   go_wp2_with fail
   refine (lightI_any A n c l _ HL.out (Nat.le_trans HN.out (by decide)) HX.out).mono ?_
   rintro e w2 ⟨rfl, q, rfl⟩
   rw [HLt.out]
   replace HB := Lib.hid (below_drewN HB.out q)
   go_wp2_with fail
   go_ret
   exact ⟨rfl, HB.out⟩
  ·by_cases h3 : m ≤ 100
   ·exact buparts_main As ns cs (zs.take ns) room size A n c l B m d k w g1 (fun z hz => lit_i64' (g5 z hz)) hrb.1 hrb.2 hl.1 hl.2.1 hl.near hk.1 hk.2.1 h1 h2 h3
   ·have HB := Lib.hid (Below.refl w.heap.size w)
    have HL := Lib.hid hl.1
    have HX := Lib.hid hl.near
    have HN := Lib.hid hl.2.2.2.1
    have HLt := Lib.hid h2
    have q1 : decide ((100 : Int) < (ns : Int)) = false := by simp; omega
    have q5 : ¬ (100 : Int) < (ns : Int) := by omega
    have q6 : (100 : Int) < (m : Int) := by omega
    clear g1 g4 g5 hl hk hs h2 hr hz hrb
    go_enter Try.func3, Try.ntmps3
    go_wp2_with fail
    refine (lives13_any _).mono ?_
    rintro e w1 ⟨rfl, hb⟩
    replace HB := Lib.hid (HB.out.trans (hb.mono HB.out.size))
    replace HL := Lib.hid (HL.out.below hb)
    clear hb
    go_wp2_with fail
    refine (lightI_any A n c l _ HL.out (Nat.le_trans HN.out (by decide)) HX.out).mono ?_
    rintro e w2 ⟨rfl, q, rfl⟩
    rw [HLt.out]
    replace HB := Lib.hid (below_drewN HB.out q)
    go_wp2_with fail
    go_ret
    exact ⟨rfl, HB.out⟩
 ·have HB := Lib.hid (Below.refl w.heap.size w)
  have q5 : (100 : Int) < (ns : Int) := by omega
  clear g1 g4 g5 hl hk hs hr hz hrb
  go_enter Try.func3, Try.ntmps3
  go_wp2_with fail
  refine (lives13_any _).mono ?_
  rintro e w1 ⟨rfl, hb⟩
  replace HB := Lib.hid (HB.out.trans (hb.mono HB.out.size))
  clear hb
  go_wp2_with fail
  go_ret
  exact ⟨rfl, HB.out⟩
end Go.Proofs.Ytgnpldlgdapehaa

