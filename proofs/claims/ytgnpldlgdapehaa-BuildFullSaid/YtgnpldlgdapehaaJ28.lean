/-
  Contracts of package build over items: which are valid, their parts. (Written by wip/tools/gen_bur.py.)
-/
import Derived.Test.YtgnpldlgdapehaaJ21
import Derived.Test.YtgnpldlgdapehaaJ22
import Derived.Test.YtgnpldlgdapehaaJ27
import Derived.Test.YtgnpldlgdapehaaJ2
set_option linter.unusedVariables false
set_option linter.unusedSimpArgs false
namespace Go.Proofs.Ytgnpldlgdapehaa
open Go.RowKit
attribute [local go_sem ↓] Go.wp_at_zero Go.wp_at_succ

set_option maxRecDepth 100000 in
set_option maxHeartbeats 6400000 in
theorem wrongI_any (A : Option Addr) (n c : Nat) (l : List It) (b : Nat) (w : World) (hr : Reads w w.heap.size 5 A n (itc l)) (hn : n ≤ 1000000) (hx : NearI l) (hb : Blk w b 74 #[.func (.func 47) #[] #[], .func (.func 48) #[] #[], .func (.func 49) #[] #[]]) :
  Calls Try.prog 69 #[.slice A n c, .pointer (some ⟨b, 0, none⟩)] w fun e w' => e = .returned (.bool (!mayP8 4096 2 0 l)) ∧ Below w.heap.size w w' := by
 have c2 := hb.cell 2
 simp at c2
 have HB := Lib.hid (Below.refl w.heap.size w)
 rcases hm : mayP8 4096 2 0 l with _ | _
 ·have HC := Lib.hid (lpage8_no 4096 2 0 A n c l w hr (by omega) hx hm)
  clear hr hb hm
  go_enter Try.func69, Try.ntmps69
  go_wp2_with fail
  refine HC.out.mono ?_
  rintro e w1 ⟨rfl, hb1⟩
  have HB1 := Lib.hid hb1
  clear hb1 HC
  go_wp2_with fail
  go_ret
  exact ⟨rfl, HB1.out.alloc HB1.out.size _⟩
 ·have HC := Lib.hid (lpage8_yes 4096 2 0 A n c l w hr (by omega) hm)
  clear hr hb hm
  go_enter Try.func69, Try.ntmps69
  go_wp2_with fail
  refine HC.out.mono ?_
  rintro e w1 ⟨rfl, hb1⟩
  have HB1 := Lib.hid hb1
  clear hb1 HC
  go_wp2_with fail
  go_ret
  exact ⟨rfl, HB1.out.alloc HB1.out.size _⟩
theorem any_takeI {P : List (List It)} {f : List It → Bool} {k : Nat} {p : List It} (h : P[k]? = some p) : (P.take (k + 1)).any f = ((P.take k).any f || f p) := by
 obtain ⟨hk, rfl⟩ := List.getElem?_eq_some_iff.1 h
 rw [List.take_succ_eq_append_getElem hk, List.any_append]
 simp
set_option maxRecDepth 100000 in
set_option maxHeartbeats 6400000 in
theorem indexI_any (A : Option Addr) (n c : Nat) (vs : List Value) (P : List (List It)) (b : Nat) (w : World) (hr : Reads w w.heap.size 1 A n vs) (hp : NsRead 5 itc w vs P) (hn : n ≤ 1000000) (hl : ∀ p ∈ P, p.length ≤ 1000000) (hx : ∀ p ∈ P, NearI p) (hb : Blk w b 74 #[.func (.func 47) #[] #[], .func (.func 48) #[] #[], .func (.func 49) #[] #[]]) :
  Calls Try.prog 89 #[.slice A n c, .func (.func 69) #[] #[.pointer (some ⟨b, 0, none⟩)]] w fun e w' => (∃ i : Int, e = .returned (.int .i64 i) ∧ decide (0 ≤ i) = P.any (fun p => !mayP8 4096 2 0 p)) ∧ Below w.heap.size w w' := by
 have eg : ∀ args w, (callFunc 69 args).run Try.prog w = .ok (.enter 69 args) w := fun _ _ => rfl
 have HR := Lib.hid hr
 have HP := Lib.hid hp
 have HL := Lib.hid hl
 have HX := Lib.hid hx
 have HE := Lib.hid hb
 have HN := Lib.hid (hp.len hr)
 clear hr hp hl hx hb
 go_enter Try.func89, Try.ntmps89
 go_wp2_with fail
 go_loopw [5, 8] (fun _ vi wr => ∃ k : Nat, k ≤ n ∧ vi = .int .i64 k ∧ Hid ((P.take k).any (fun p => !mayP8 4096 2 0 p) = false) ∧ Hid (Below w.heap.size w wr)) (fun _ vi _ => n - (RowKit.intOf vi).toNat)
 case atStart => exact ⟨0, Nat.zero_le _, rfl, Lib.hid (by simp), Lib.hid (Below.refl _ _)⟩
 case round =>
  obtain ⟨k, hk, rfl, HA, HBr⟩ := hrel
  by_cases hlt : k < n
  ·obtain ⟨ad, A', c', p, rfl, _, hx, hc, hrp, _⟩ := (HP.out.below (HBr.out.mono (Nat.le_refl _))).at_ (HR.out.below HBr.out) hlt
   have hpm := List.mem_of_getElem? hx
   have HC := Lib.hid (wrongI_any A' p.length c' p b wr hrp (HL.out p hpm) (HX.out p hpm) (HE.out.below HBr.out HE.out.lt))
   have HT := Lib.hid (any_takeI (f := fun p => !mayP8 4096 2 0 p) hx)
   have e1 : (0 : Int) ≤ k := by omega
   have e2 : (k : Int) < n := by omega
   have HM := Lib.hid (show (P.any fun p => !mayP8 4096 2 0 p) = false → (!mayP8 4096 2 0 p) = false from fun h => by
    rw [List.any_eq_false] at h
    simpa using h p hpm)
   clear hx hrp hpm
   go_wp2_with fail
   refine HC.out.mono ?_
   rintro e w1 ⟨rfl, hb1⟩
   have HB1 := Lib.hid (HBr.out.trans (hb1.mono HBr.out.size))
   clear hb1 HC
   rcases hq : mayP8 4096 2 0 p with _ | _
   ·rw [hq] at HM
    clear HT
    go_wp2_with fail
    go_ret
    refine ⟨⟨k, rfl, ?_⟩, HB1.out⟩
    have h1 : P.any (fun p => !mayP8 4096 2 0 p) = true := by
     rcases h : P.any (fun p => !mayP8 4096 2 0 p) with _ | _
     ·exact absurd (HM.out h) (by simp)
     ·rfl
    rw [h1]
    simp
   ·rw [hq] at HT
    go_wp2_with fail
    exact ⟨⟨k + 1, by omega, by go_num, Lib.hid (by rw [HT.out, HA.out]; rfl), HB1⟩, by simp [RowKit.intOf]; omega⟩
  ·obtain rfl : k = n := by omega
   have e2 : ¬ (k : Int) < k := by omega
   have hte : P.take k = P := List.take_of_length_le (by rw [HN.out]; exact Nat.le_refl _)
   rw [hte] at HA
   clear hlt hk hte
   go_wp2_with fail
   go_ret
   exact ⟨⟨-1, rfl, by rw [HA.out]; rfl⟩, HBr.out⟩
theorem containsI_any (A : Option Addr) (n c : Nat) (vs : List Value) (P : List (List It)) (b : Nat) (w : World) (hr : Reads w w.heap.size 1 A n vs) (hp : NsRead 5 itc w vs P) (hn : n ≤ 1000000) (hl : ∀ p ∈ P, p.length ≤ 1000000) (hx : ∀ p ∈ P, NearI p) (hb : Blk w b 74 #[.func (.func 47) #[] #[], .func (.func 48) #[] #[], .func (.func 49) #[] #[]]) :
  Calls Try.prog 70 #[.slice A n c, .func (.func 69) #[] #[.pointer (some ⟨b, 0, none⟩)]] w fun e w' => e = .returned (.bool (P.any fun p => !mayP8 4096 2 0 p)) ∧ Below w.heap.size w w' := by
 have HC := Lib.hid (indexI_any A n c vs P b w hr hp hn hl hx hb)
 clear hr hp hl hx hb
 go_enter Try.func70, Try.ntmps70
 go_wp2_with fail
 refine HC.out.mono ?_
 rintro e w1 ⟨⟨i, rfl, hi⟩, hb1⟩
 have HI := Lib.hid hi
 have HB := Lib.hid hb1
 clear hi hb1 HC
 go_wp2_with fail
 go_ret
 exact ⟨by rw [← HI.out]; rfl, HB.out⟩
set_option maxRecDepth 100000 in
set_option maxHeartbeats 12800000 in
theorem validI_any (A : Option Addr) (n c : Nat) (l : List It) (w : World) (hr : Reads w w.heap.size 5 A n (itc l)) (hn : n ≤ 1000000) (hnc : n ≤ c) (hx : NearI l) (hs : sizeI l ≤ 9007199254740992) :
  Calls Try.prog 44 #[elI, .slice A n c] w fun e w' => e = .returned (.bool (mayI l)) ∧ Below w.heap.size w w' := by
 have hmf : ∀ (fn : Fn) (first cap : Array Value) (w : World), (Instr.makeFunc fn first cap).run Try.prog w = .ok (.func fn first cap) w := fun _ _ _ _ => rfl
 have HR := Lib.hid hr
 have HL := Lib.hid (it_len hr)
 have HX := Lib.hid hx
 obtain ⟨P, hP⟩ : ∃ P, P = cutP (fun x : It => ((sizeI [x] : Nat) : Int)) 4072 l := ⟨_, rfl⟩
 have HM := Lib.hid (mayI_parts l)
 rw [← hP] at HM
 have HPs := Lib.hid (fun w' (hb : Below w.heap.size w w') => partsI_any A n c l 4072 w' ((hr.below hb).more hb.size) hn hnc hx hs (by decide) (by decide))
 rw [← hP] at HPs
 have HPl := Lib.hid (show P.length ≤ n from by
  rw [hP]
  unfold cutP
  rw [partsBy_length]
  have := (cutL_length (l.map (fun x : It => ((sizeI [x] : Nat) : Int))) 4072).1
  rw [List.length_map, HL.out] at this
  exact this)
 have HSg := Lib.hid (show ∀ p ∈ P, ∃ a b, p = (l.drop a).take b from fun p hp => by rw [hP] at hp; exact cutPI_seg hp)
 have e0 := Blk.new w 74 #[.func (.func 47) #[] #[], .func (.func 48) #[] #[], .func (.func 49) #[] #[]]
 have HE := Lib.hid e0
 have HB0 := Lib.hid ((Below.refl w.heap.size w).alloc (Nat.le_refl _) (.cells #[.func (.func 47) #[] #[], .func (.func 48) #[] #[], .func (.func 49) #[] #[]] 74))
 clear hr hx hs hP e0
 unfold elI
 go_enter Try.func44, Try.ntmps44
 go_upto_region 1 with fail
 obtain ⟨w0, hw0⟩ : ∃ y, y = w.alloc (.cells #[.func (.func 47) #[] #[], .func (.func 48) #[] #[], .func (.func 49) #[] #[]] 74) := ⟨_, rfl⟩
 rw [← hw0] at HE HB0 ⊢
 have hb0 : w0.heap.size = w.heap.size + 1 := by rw [hw0]; simp
 have HQ := Lib.hid (show w0.cell? ⟨w.heap.size, 0, none⟩ = some (.func (.func 47) #[] #[]) ∧ w0.cell? ⟨w.heap.size, 1, none⟩ = some (.func (.func 48) #[] #[]) ∧ w0.cell? ⟨w.heap.size, 2, none⟩ = some (.func (.func 49) #[] #[]) from ⟨by rw [HE.out.cell 0]; rfl, by rw [HE.out.cell 1]; rfl, by rw [HE.out.cell 2]; rfl⟩)
 clear hw0
 refine wp_region_held_drew (S := (fun w' => w'.cell? ⟨w.heap.size, 0, none⟩ = some (.func (.func 47) #[] #[]) ∧ w'.cell? ⟨w.heap.size, 1, none⟩ = some (.func (.func 48) #[] #[]) ∧ w'.cell? ⟨w.heap.size, 2, none⟩ = some (.func (.func 49) #[] #[]))) (by kernel_rfl) (show _ ∧ _ from HQ.out) (fun _ => ?_)
 refine tkA (i := 0) ?_
 try simp only [tkP]
 refine tkA (i := 2) ?_
 try simp only [tkP]
 refine wpAnyH_ready (rs := [1]) (by kernel_rfl) (by simp) ?_
 refine tkC (fun K hK => ?_)
 go_simp
 refine (room_yes 4096 _ rfl).mono ?_
 rintro e w1 ⟨rfl, rfl⟩
 refine hK.out _ _ (show _ ∧ _ from HQ.out) (fun hHeld => ?_)
 clear hK K
 try simp only [tkP]
 refine wpAnyH_ready (rs := [3]) (by kernel_rfl) (by simp) ?_
 refine tkC (fun K hK => ?_)
 go_simp
 refine (HPs.out _ HB0.out.drew).mono ?_
 rintro e w2 ⟨A2, n2, c2, vs, rfl, ho2, hn2, hb2⟩
 have HO2 := Lib.hid (Reads.of_own ho2)
 have HN2 := Lib.hid hn2.read
 have HB2 := Lib.hid (show Below w0.heap.size w0 w2 from (Below.refl _ w0).drew.trans hb2)
 have hm2 := hn2.read.len (Reads.of_own ho2)
 have HM2 := Lib.hid hm2
 clear ho2 hn2 hb2 hm2
 refine hK.out _ _ (show _ ∧ _ from ⟨(HB2.out.cell (p := ⟨w.heap.size, 0, none⟩) (by show w.heap.size < _; omega)).trans HQ.out.1, (HB2.out.cell (p := ⟨w.heap.size, 1, none⟩) (by show w.heap.size < _; omega)).trans HQ.out.2.1, (HB2.out.cell (p := ⟨w.heap.size, 2, none⟩) (by show w.heap.size < _; omega)).trans HQ.out.2.2⟩) (fun hHeld => ?_)
 clear hK K
 try simp only [tkP]
 refine tkA (i := 4) ?_
 try simp only [tkP]
 refine wpAnyH_done (by kernel_rfl) ?_ _
 have hB2 := HB0.out.trans (HB2.out.mono HB0.out.size)
 have HBw := Lib.hid hB2
 have HE2 := Lib.hid (HE.out.below HB2.out (by omega))
 have k0 := (HB2.out.cell (p := ⟨w.heap.size, 0, none⟩) (by show w.heap.size < _; omega)).trans HQ.out.1
 have HK0 := Lib.hid k0
 clear hHeld hB2 HB0 HPs k0
 rcases hPe : P with _ | ⟨p0, P0⟩
 ·subst hPe
  obtain rfl : n2 = 0 := HM2.out.symm
  go_wp2_with fail
  go_ret
  exact ⟨by rw [HM.out]; rfl, HBw.out⟩
 (try rw [← hPe])
 have hne : P.isEmpty = false := by rw [hPe]; rfl
 have hn2 : 0 < n2 := by rw [← HM2.out, hPe]; simp
 rw [hne] at HM
 have HCo := Lib.hid (containsI_any A2 n2 c2 vs P w.heap.size w2 HO2.out HN2.out (by rw [← HM2.out]; exact Nat.le_trans HPl.out hn) (fun p hp => by
  obtain ⟨a, b, rfl⟩ := HSg.out p hp
  rw [List.length_take, List.length_drop, HL.out]
  omega) (fun p hp b hb => by obtain ⟨a, b', rfl⟩ := HSg.out p hp; exact HX.out b (List.mem_of_mem_drop (List.mem_of_mem_take hb))) HE2.out)
 have z1 : (0 : Int) < (n2 : Int) := by omega
 have z2 : decide ((0 : Int) < (n2 : Int)) = true := by simp; omega
 have z3 : decide (0 < n2) = true := by simp; omega
 clear hPe hne hn2
 go_wp2_with fail
 refine HCo.out.mono ?_
 rintro e w3 ⟨rfl, hb3⟩
 have HB3 := Lib.hid (HBw.out.trans (hb3.mono HBw.out.size))
 have k0 := (hb3.cell (p := ⟨w.heap.size, 0, none⟩) (by show w.heap.size < _; have := HB2.out.size; omega)).trans HK0.out
 clear hb3 HCo
 rcases hq : P.any (fun p => !mayP8 4096 2 0 p) with _ | _
 ·rw [hq] at HM
  have HRi := Lib.hid (risesI_any A n c l w3 ((HR.out.below HB3.out).more HB3.out.size) hn)
  go_wp2_with fail
  refine HRi.out.mono ?_
  rintro e w4 ⟨rfl, hb4⟩
  have HB4 := Lib.hid (HB3.out.trans (hb4.mono HB3.out.size))
  clear hb4 HRi
  go_wp2_with fail
  go_ret
  exact ⟨by rw [HM.out]; rfl, HB4.out⟩
 ·rw [hq] at HM
  go_wp2_with fail
  go_ret
  exact ⟨by rw [HM.out]; rfl, HB3.out⟩
def nodesI (size : Int) (l : List It) : Int × List (List It) := if goodSize size && mayI l then (if cutP (fun x : It => ((sizeI [x] : Nat) : Int)) (size - 24) l = [] then (3, []) else (0, cutP (fun x : It => ((sizeI [x] : Nat) : Int)) (size - 24) l)) else (2, [])
def NodesI (size : Int) (l : List It) (w : World) (e : Ending) (w' : World) : Prop :=
 ∃ A n c vs, e = .returned (.tuple #[.slice A n c, .int .i64 (nodesI size l).1]) ∧ Reads w' w'.heap.size 1 A n vs ∧ NsRead 5 itc w' vs (nodesI size l).2 ∧ Below w.heap.size w w'
theorem NodesI.none {size : Int} {l : List It} {w w' : World} {x : Int} (h : nodesI size l = (x, [])) (hb : Below w.heap.size w w') : NodesI size l w (.returned (.tuple #[.slice none 0 0, .int .i64 x])) w' :=
 ⟨_, 0, 0, [], by rw [h], Reads.none_, by rw [h]; exact ⟨rfl, fun i v p h => by cases h⟩, hb⟩
set_option maxRecDepth 100000 in
set_option maxHeartbeats 12800000 in
theorem nodesI_any (size : Int) (A : Option Addr) (n c : Nat) (l : List It) (w : World) (hr : Reads w w.heap.size 5 A n (itc l)) (hn : n ≤ 1000000) (hnc : n ≤ c) (hx : NearI l) (hs : sizeI l ≤ 9007199254740992) :
  Calls Try.prog 31 #[.int .i64 size, .slice A n c, elI] w (NodesI size l w) := by
 have HR := Lib.hid hr
 have HG := fun w => dgood_any size w
 have HV := Lib.hid (fun w' (hb : Below w.heap.size w w') => validI_any A n c l w' ((hr.below hb).more hb.size) hn hnc hx hs)
 have e0 := Blk.new w 74 #[.func (.func 47) #[] #[], .func (.func 48) #[] #[], .func (.func 49) #[] #[]]
 have HE := Lib.hid e0
 have HB0 := Lib.hid ((Below.refl w.heap.size w).alloc (Nat.le_refl _) (.cells #[.func (.func 47) #[] #[], .func (.func 48) #[] #[], .func (.func 49) #[] #[]] 74))
 have HS := Lib.hid hs
 have HX := Lib.hid hx
 clear hr hx hs e0
 obtain ⟨w0, hw0⟩ : ∃ y, y = w.alloc (.cells #[.func (.func 47) #[] #[], .func (.func 48) #[] #[], .func (.func 49) #[] #[]] 74) := ⟨_, rfl⟩
 rw [← hw0] at HE HB0
 have hb0 : w0.heap.size = w.heap.size + 1 := by rw [hw0]; simp
 have HQ := Lib.hid (show w0.cell? ⟨w.heap.size, 0, none⟩ = some (.func (.func 47) #[] #[]) ∧ w0.cell? ⟨w.heap.size, 1, none⟩ = some (.func (.func 48) #[] #[]) ∧ w0.cell? ⟨w.heap.size, 2, none⟩ = some (.func (.func 49) #[] #[]) from ⟨by rw [HE.out.cell 0]; rfl, by rw [HE.out.cell 1]; rfl, by rw [HE.out.cell 2]; rfl⟩)
 have hq0 := HQ.out.1
 have hq1 := HQ.out.2.1
 have hq2 := HQ.out.2.2
 have HV0 := Lib.hid (HV.out w0 HB0.out)
 unfold elI at HV0 ⊢
 rcases hg : goodSize size with _ | _
 ·have HP := Lib.hid (show ∀ w', Below w.heap.size w w' → NodesI size l w (.returned (.tuple #[.slice none 0 0, .int .i64 2])) w' from fun w' hb => NodesI.none (by unfold nodesI; rw [hg]; rfl) hb)
  rw [hg] at HG
  go_enter Try.func31, Try.ntmps31
  go_wp2_with fail
  refine (HG _).mono ?_
  rintro e w1 ⟨rfl, rfl⟩
  rw [← hw0]
  clear hw0
  go_wp2_with fail
  go_ret2
  exact HP.out _ HB0.out
 rw [hg] at HG
 rcases hm : mayI l with _ | _
 ·have HP := Lib.hid (show ∀ w', Below w.heap.size w w' → NodesI size l w (.returned (.tuple #[.slice none 0 0, .int .i64 2])) w' from fun w' hb => NodesI.none (by unfold nodesI; rw [hg, hm]; rfl) hb)
  rw [hm] at HV0
  go_enter Try.func31, Try.ntmps31
  go_wp2_with fail
  refine (HG _).mono ?_
  rintro e w1 ⟨rfl, rfl⟩
  rw [← hw0]
  clear hw0
  go_wp2_with fail
  refine HV0.out.mono ?_
  rintro e w2 ⟨rfl, hb2⟩
  have HB2 := Lib.hid (HB0.out.trans (hb2.mono HB0.out.size))
  clear hb2
  go_wp2_with fail
  go_ret2
  exact HP.out _ HB2.out
 rw [hm] at HV0
 have HNod := Lib.hid (show nodesI size l = (if cutP (fun x : It => ((sizeI [x] : Nat) : Int)) (size - 24) l = [] then (3, []) else (0, cutP (fun x : It => ((sizeI [x] : Nat) : Int)) (size - 24) l)) by unfold nodesI; rw [hg, hm]; rfl)
 obtain ⟨zn, rfl, hz1, hz2, _⟩ := good_nat hg
 have hrm := fun w => room_yes (zn : Int) w hg
 obtain ⟨P, hP⟩ : ∃ P, P = cutP (fun x : It => ((sizeI [x] : Nat) : Int)) ((zn : Int) - 24) l := ⟨_, rfl⟩
 have HPs := Lib.hid (fun w' (hb : Below w.heap.size w w') => partsI_any A n c l ((zn : Int) - 24) w' ((HR.out.below hb).more hb.size) hn hnc HX.out HS.out (by omega) (by omega))
 rw [← hP] at HPs HNod
 have HG2 := Lib.hid HG
 clear hg hm hP HV HG
 go_enter Try.func31, Try.ntmps31
 go_wp2_with fail
 refine (HG2.out _).mono ?_
 rintro e w1 ⟨rfl, rfl⟩
 rw [← hw0]
 clear hw0
 go_wp2_with fail
 refine HV0.out.mono ?_
 rintro e w2 ⟨rfl, hb2⟩
 have HB2 := Lib.hid (HB0.out.trans (hb2.mono HB0.out.size))
 have HQ2 := Lib.hid (show w2.cell? ⟨w.heap.size, 0, none⟩ = some (.func (.func 47) #[] #[]) ∧ w2.cell? ⟨w.heap.size, 1, none⟩ = some (.func (.func 48) #[] #[]) ∧ w2.cell? ⟨w.heap.size, 2, none⟩ = some (.func (.func 49) #[] #[]) from ⟨(hb2.cell (p := ⟨w.heap.size, 0, none⟩) (by show w.heap.size < _; omega)).trans HQ.out.1, (hb2.cell (p := ⟨w.heap.size, 1, none⟩) (by show w.heap.size < _; omega)).trans HQ.out.2.1, (hb2.cell (p := ⟨w.heap.size, 2, none⟩) (by show w.heap.size < _; omega)).trans HQ.out.2.2⟩)
 have hs2 : w0.heap.size ≤ w2.heap.size := hb2.size
 clear hb2 HV0 hq0 hq1 hq2
 go_upto_region 3 with fail
 refine wp_region_held_drew (S := (fun w' => w'.cell? ⟨w.heap.size, 0, none⟩ = some (.func (.func 47) #[] #[]) ∧ w'.cell? ⟨w.heap.size, 1, none⟩ = some (.func (.func 48) #[] #[]) ∧ w'.cell? ⟨w.heap.size, 2, none⟩ = some (.func (.func 49) #[] #[]))) (by kernel_rfl) (show _ ∧ _ from HQ2.out) (fun _ => ?_)
 refine tkA (i := 0) ?_
 try simp only [tkP]
 refine tkA (i := 1) ?_
 try simp only [tkP]
 refine tkA (i := 3) ?_
 try simp only [tkP]
 refine wpAnyH_ready (rs := [2]) (by kernel_rfl) (by simp) ?_
 refine tkC (fun K hK => ?_)
 go_simp
 refine (hrm _).mono ?_
 rintro e w3 ⟨rfl, rfl⟩
 refine hK.out _ _ (show _ ∧ _ from HQ2.out) (fun hHeld => ?_)
 clear hK K
 try simp only [tkP]
 refine wpAnyH_ready (rs := [4]) (by kernel_rfl) (by simp) ?_
 refine tkC (fun K hK => ?_)
 go_simp
 refine (HPs.out _ HB2.out.drew).mono ?_
 rintro e w4 ⟨A4, n4, c4, vs, rfl, ho4, hn4, hb4⟩
 have HO4 := Lib.hid (Reads.of_own ho4)
 have HN4 := Lib.hid hn4.read
 have HB4 := Lib.hid (show Below w2.heap.size w2 w4 from (Below.refl _ w2).drew.trans hb4)
 have HM4 := Lib.hid (hn4.read.len (Reads.of_own ho4))
 clear ho4 hn4 hb4
 refine hK.out _ _ (show _ ∧ _ from ⟨(HB4.out.cell (p := ⟨w.heap.size, 0, none⟩) (by show w.heap.size < _; omega)).trans HQ2.out.1, (HB4.out.cell (p := ⟨w.heap.size, 1, none⟩) (by show w.heap.size < _; omega)).trans HQ2.out.2.1, (HB4.out.cell (p := ⟨w.heap.size, 2, none⟩) (by show w.heap.size < _; omega)).trans HQ2.out.2.2⟩) (fun hHeld => ?_)
 clear hK K
 try simp only [tkP]
 refine tkA (i := 5) ?_
 try simp only [tkP]
 refine wpAnyH_done (by kernel_rfl) ?_ _
 have HBf := Lib.hid (HB2.out.trans (HB4.out.mono HB2.out.size))
 clear hHeld HPs
 by_cases h0 : P = []
 ·obtain rfl : n4 = 0 := by rw [← HM4.out, h0]; rfl
  rw [if_pos h0] at HNod
  go_wp2_with fail
  go_ret2
  exact NodesI.none HNod.out HBf.out
 ·have hn4 : n4 ≠ 0 := fun e => h0 (List.eq_nil_of_length_eq_zero (by rw [HM4.out, e]))
  rw [if_neg h0] at HNod
  have z1 : ((n4 : Int) == 0) = false := by simp; omega
  have z2 : (n4 == 0) = false := by simp; omega
  have z3 : ¬ (n4 : Int) = 0 := by omega
  clear h0
  go_wp2_with fail
  go_ret2
  exact ⟨A4, n4, c4, vs, by rw [HNod.out]; rfl, HO4.out, by rw [HNod.out]; exact HN4.out, HBf.out⟩
theorem faceI_any (size : Int) (A : Option Addr) (n c : Nat) (l : List It) (w : World) (hr : Reads w w.heap.size 5 A n (itc l)) (hn : n ≤ 1000000) (hnc : n ≤ c) (hx : NearI l) (hs : sizeI l ≤ 9007199254740992) :
  Calls Try.prog 9 #[.int .i64 size, .slice A n c] w (NodesI size l w) := by
 have HN := Lib.hid (fun w' (hb : Below w.heap.size w w') => nodesI_any size A n c l w' ((hr.below hb).more hb.size) hn hnc hx hs)
 clear hr hx hs
 go_enter Try.func9, Try.ntmps9
 go_wp2_with fail
 refine (elemI_any _).mono ?_
 rintro e w1 ⟨rfl, hb1⟩
 have HB1 := Lib.hid hb1
 clear hb1
 go_wp2_with fail
 refine (HN.out _ HB1.out).mono ?_
 rintro e w2 ⟨A2, n2, c2, vs, rfl, hr2, hn2, hb2⟩
 have HR2 := Lib.hid hr2
 have HN2 := Lib.hid hn2
 have HB2 := Lib.hid (HB1.out.trans (hb2.mono HB1.out.size))
 clear hr2 hn2 hb2 HN
 go_wp2_with fail
 go_ret2
 exact ⟨A2, n2, c2, vs, rfl, HR2.out, HN2.out, HB2.out⟩
end Go.Proofs.Ytgnpldlgdapehaa

