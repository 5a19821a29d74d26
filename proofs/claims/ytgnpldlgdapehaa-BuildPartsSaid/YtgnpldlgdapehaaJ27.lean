/-
  Contracts of the reference's Leaves of layer 13, and of the statements' flat. (Written by wip/tools/gen_bus.py.)
-/
import Derived.Test.YtgnpldlgdapehaaJ25
import Derived.Test.YtgnpldlgdapehaaJ26
import Derived.Test.YtgnpldlgdapehaaJ22
set_option linter.unusedVariables false
set_option linter.unusedSimpArgs false
namespace Go.Proofs.Ytgnpldlgdapehaa
open Go.RowKit
attribute [local go_sem ↓] Go.wp_at_zero Go.wp_at_succ

theorem map_takeI {l : List It} {k : Nat} {x : It} (h : l[k]? = some x) : icells ((l.take (k + 1)).map (fun x : It => ((sizeI [x] : Nat) : Int))) = icells ((l.take k).map (fun x : It => ((sizeI [x] : Nat) : Int))) ++ [.int .i64 (sizeI [x] : Nat)] := by
 obtain ⟨hk, rfl⟩ := List.getElem?_eq_some_iff.1 h
 rw [List.take_succ_eq_append_getElem hk, List.map_append]
 simp [icells]
set_option maxRecDepth 100000 in
set_option maxHeartbeats 12800000 in
theorem rnodesI_any (size : Int) (A : Option Addr) (n c : Nat) (l : List It) (w : World) (hr : Reads w w.heap.size 5 A n (itc l)) (hn : n ≤ 1000000) (hnc : n ≤ c) (hx : NearI l) (hs : sizeI l ≤ 9007199254740992) :
  Calls Try.prog 10 #[.int .i64 size, .slice A n c] w (NodesI size l w) := by
 obtain ⟨i0, hi0, hz0, hz1, hz2⟩ := info_parts infoI13
 obtain ⟨j0, hj0, hy0, hy1, hy2⟩ := info_parts infoSI
 obtain ⟨k0, hk0, hx0, hx1, hx2⟩ := info_parts infoBI
 have HR := Lib.hid hr
 have HL := Lib.hid (it_len hr)
 have HG := fun w => rgood_any size w
 have HMa := Lib.hid (rmay8_any A n c l w hr (by omega))
 have HS := Lib.hid hs
 have HX := Lib.hid hx
 clear hr hx hs
 rcases hg : goodSize size with _ | _
 ·have HP := Lib.hid (show ∀ w', Below w.heap.size w w' → NodesI size l w (.returned (.tuple #[.slice none 0 0, .int .i64 2])) w' from fun w' hb => NodesI.none (by unfold nodesI; rw [hg]; rfl) hb)
  rw [hg] at HG
  go_enter Try.func10, Try.ntmps10
  go_wp2_with fail
  refine (HG _).mono ?_
  rintro e w1 ⟨rfl, rfl⟩
  go_wp2_with fail
  go_ret2
  exact HP.out _ (Below.refl _ _)
 rw [hg] at HG
 rcases hm : mayI l with _ | _
 ·have HP := Lib.hid (show ∀ w', Below w.heap.size w w' → NodesI size l w (.returned (.tuple #[.slice none 0 0, .int .i64 2])) w' from fun w' hb => NodesI.none (by unfold nodesI; rw [hg, hm]; rfl) hb)
  rw [hm] at HMa
  go_enter Try.func10, Try.ntmps10
  go_wp2_with fail
  refine (HG _).mono ?_
  rintro e w1 ⟨rfl, rfl⟩
  go_wp2_with fail
  refine HMa.out.mono ?_
  rintro e w2 ⟨rfl, hb2⟩
  have HB2 := Lib.hid hb2
  clear hb2
  go_wp2_with fail
  go_ret2
  exact HP.out _ HB2.out
 rw [hm] at HMa
 have HNod := Lib.hid (show nodesI size l = (if cutP (fun x : It => ((sizeI [x] : Nat) : Int)) (size - 24) l = [] then (3, []) else (0, cutP (fun x : It => ((sizeI [x] : Nat) : Int)) (size - 24) l)) by unfold nodesI; rw [hg, hm]; rfl)
 obtain ⟨zn, rfl, hz1', hz2', _⟩ := good_nat hg
 have hrm := fun w => rroom_yes (zn : Int) w hg
 have HG2 := Lib.hid HG
 clear hg hm HG
 go_enter Try.func10, Try.ntmps10
 go_wp2_with fail
 refine (HG2.out _).mono ?_
 rintro e w1 ⟨rfl, rfl⟩
 go_wp2_with fail
 refine HMa.out.mono ?_
 rintro e w2 ⟨rfl, hb2⟩
 have HB2 := Lib.hid hb2
 clear hb2 HMa HG2
 go_wp2_with fail
 go_loopw [6, 7] (fun vs vi wr => ∃ (k : Nat) (A' : Option Addr) (c' : Nat), k ≤ n ∧ vi = .int .i64 k ∧ vs = .slice A' k c' ∧ Hid (wr.ownsRow w2.heap.size 3 1 (.slice A' k c') k (icells ((l.take k).map (fun x : It => ((sizeI [x] : Nat) : Int))))) ∧ Hid (Below w2.heap.size w2 wr)) (fun _ vi _ => n - (RowKit.intOf vi).toNat)
 case atStart => exact ⟨0, none, 0, Nat.zero_le _, rfl, rfl, Lib.hid (World.ownsRow_nil _ _ _ _), Lib.hid (Below.refl _ _)⟩
 case round =>
  obtain ⟨k, A', c', hk, rfl, rfl, HO, HBr⟩ := hrel
  have HBt := Lib.hid (HB2.out.trans (HBr.out.mono HB2.out.size))
  by_cases hlt : k < n
  ·obtain ⟨ad, x, rfl, hab, _, hx, c0, c1, c2, c3, c4⟩ := it_at (HR.out.below HBt.out) hlt
   have hxm := List.mem_of_getElem? hx
   have HSx := Lib.hid (show sizeI [x] ≤ 9007199254740992 from by
    have h1 := sz_segI l k 1
    obtain ⟨hk, rfl⟩ := List.getElem?_eq_some_iff.1 hx
    rw [List.drop_eq_getElem_cons hk] at h1
    exact Nat.le_trans h1 HS.out)
   have HOne := Lib.hid (rone8_any x wr (HX.out x hxm).1 (HX.out x hxm).2)
   have HMt := Lib.hid (map_takeI hx)
   obtain ⟨sv, hsv⟩ : ∃ sv, sv = sizeI [x] := ⟨_, rfl⟩
   have hval : ((oneI x : Nat) : Int) = (sv : Int) := by rw [hsv]; simp [sizeI]
   rw [hval] at HOne
   rw [← hsv] at HMt
   have e1 : (0 : Int) ≤ k := by omega
   have e2 : (k : Int) < n := by omega
   have hsz := HBr.out.size
   have HBase := Lib.hid (own_base HO.out)
   clear hx hxm hab hsv hval
   go_wp2_with fail
   refine HOne.out.mono ?_
   rintro e w3 ⟨rfl, hb3⟩
   have HB3 := Lib.hid hb3
   have HO3 := Lib.hid (own_below HO.out hb3)
   have hz3 := hb3.size
   clear hb3 HOne
   go_wp2_with (at_builtin; refine wpList_append_any _ rfl (.tmp 26) (.tmp 32) _ rfl w2.heap.size 3 i0 _ 1 8 Try.underlying22 hi0 hz0 hz1 hz2 rfl (by omega) _ _ _ rfl (HO3.out.alloc _) (w3.heap.size + 1) (some ⟨w3.heap.size, 0, none⟩) 1 1 [.int .i64 (sv : Int)] rfl (one_read w3 3 (.int .i64 (sv : Int))) (fun u hu => by simp at hu; subst hu; rfl) (by unfold maxLen; omega) (by omega) (by simp; omega) ?_; intro v5 w5 hown5 hg5 hat; obtain ⟨A5, c5, rfl, _, _, _⟩ := own_form hown5; clear hat)
   refine ⟨⟨k + 1, A5, c5, by omega, by go_num, rfl, Lib.hid ?_, Lib.hid ?_⟩, by simp [RowKit.intOf]; omega⟩
   ·rw [HMt.out]
    exact hown5
   ·exact (((HBr.out.trans (HB3.out.mono HBr.out.size)).alloc (Nat.le_trans hsz hz3) _).grown hg5 (by simp; omega) HBase.out)
  ·obtain rfl : k = n := by omega
   have hte : l.take k = l := List.take_of_length_le (by rw [HL.out]; exact Nat.le_refl _)
   rw [hte] at HO
   have HI := Lib.hid (Reads.of_own HO.out)
   have HB64 := Lib.hid (show ∀ x ∈ l.map (fun x : It => ((sizeI [x] : Nat) : Int)), -9223372036854775808 ≤ x ∧ x ≤ 9223372036854775807 from fun x hx => by
    obtain ⟨b, hb, rfl⟩ := List.mem_map.1 hx
    obtain ⟨i, hi, rfl⟩ := List.mem_iff_getElem.1 hb
    have h1 := sz_segI l i 1
    rw [List.drop_eq_getElem_cons hi] at h1
    have h2 := HS.out
    have h3 : sizeI [l[i]] ≤ sizeI l := h1
    show -9223372036854775808 ≤ ((sizeI [l[i]] : Nat) : Int) ∧ ((sizeI [l[i]] : Nat) : Int) ≤ 9223372036854775807
    omega)
   obtain ⟨E, hE⟩ : ∃ E, E = cutL (l.map (fun x : It => ((sizeI [x] : Nat) : Int))) ((zn : Int) - 24) := ⟨_, rfl⟩
   have HEm := Lib.hid (show ∀ i e, E[i]? = some e → prevE E i ≤ e ∧ e ≤ k from fun i e h => by
    rw [hE] at h ⊢
    have := cutL_mono h
    rw [List.length_map, HL.out] at this
    exact this)
   have HE := Lib.hid hE
   have HP := Lib.hid (show cutP (fun x : It => ((sizeI [x] : Nat) : Int)) ((zn : Int) - 24) l = partsBy l 0 E by unfold cutP; rw [HE.out])
   have HEl := Lib.hid (show E.length ≤ k by rw [HE.out]; have := (cutL_length (l.map (fun x : It => ((sizeI [x] : Nat) : Int))) ((zn : Int) - 24)).1; rw [List.length_map, HL.out] at this; exact this)
   have HBs := Lib.hid HBt.out.size
   clear hlt hk hte hE HO
   go_wp2_with fail
   refine (hrm _).mono ?_
   rintro e w3 ⟨rfl, rfl⟩
   go_wp2_with fail
   refine (rcut_any A' k c' (l.map (fun x : It => ((sizeI [x] : Nat) : Int))) ((zn : Int) - 24) _ (Nat.le_refl _) HI.out hn HB64.out (by omega) (by omega)).mono ?_
   rintro e w4 ⟨A4, m4, c4, rfl, ho4, hb4⟩
   rw [← HE.out] at ho4
   have HO4 := Lib.hid (Reads.of_own ho4)
   have hm4 := HO4.out.1
   rw [ncells_len] at hm4
   have HM4 := Lib.hid (show E.length = m4 by omega)
   have HB4 := Lib.hid (HBt.out.trans (hb4.mono HBt.out.size))
   have hz4 : w.heap.size ≤ w4.heap.size := HB4.out.size
   clear ho4 hb4 hm4 HI HB64
   by_cases h0 : m4 = 0
   ·subst h0
    have hE0 : E = [] := List.eq_nil_of_length_eq_zero HM4.out
    have hP0 : cutP (fun x : It => ((sizeI [x] : Nat) : Int)) ((zn : Int) - 24) l = [] := by rw [HP.out, hE0]; rfl
    rw [if_pos hP0] at HNod
    go_wp2_with fail
    go_ret2
    exact NodesI.none HNod.out HB4.out
   have hP1 : cutP (fun x : It => ((sizeI [x] : Nat) : Int)) ((zn : Int) - 24) l ≠ [] := fun e => by
    have := congrArg List.length e
    rw [HP.out, partsBy_length, HM4.out] at this
    exact h0 this
   rw [if_neg hP1, HP.out] at HNod
   have z1 : ((m4 : Int) == 0) = false := by simp; omega
   have z2 : (m4 == 0) = false := by simp; omega
   have z3 : ¬ (m4 : Int) = 0 := by omega
   have hm4n : m4 ≤ 1000000 := by have := HM4.out; have := HEl.out; omega
   clear hP1 h0
   go_wp2_with fail
   clear z1 z2 z3
   go_loopw [9, 10, 11] (fun va vb vi wr => ∃ (j : Nat) (A' : Option Addr) (c' : Nat) (vs : List Value), j ≤ m4 ∧ vi = .int .i64 j ∧ vb = .int .i64 (prevE E j : Nat) ∧ va = .slice A' j c' ∧ Hid (wr.ownsRow w4.heap.size 23 1 (.slice A' j c') j vs) ∧ Hid (NsAt 46 5 itc wr vs (partsBy l 0 (E.take j))) ∧ Hid (Below w4.heap.size w4 wr)) (fun _ _ vi _ => m4 - (RowKit.intOf vi).toNat)
   case atStart => exact ⟨0, none, 0, [], Nat.zero_le _, rfl, rfl, rfl, Lib.hid (World.ownsRow_nil _ _ _ _), Lib.hid (NsAt.nil _), Lib.hid (Below.refl _ _)⟩
   case round =>
    obtain ⟨j, A', c', vs, hj, rfl, rfl, rfl, HO, HNs, HBr⟩ := hrel
    by_cases hlt : j < m4
    ·obtain ⟨ad, eI, rfl, _, hx, hc⟩ := iread_at (l := E.map fun (q : Nat) => (q : Int)) (by rw [← icells_of]; exact HO4.out.below HBr.out) hlt
     rw [List.getElem?_map, Option.map_eq_some_iff] at hx
     obtain ⟨e, hx, rfl⟩ := hx
     obtain ⟨hse, hen⟩ := HEm.out j e hx
     have HNx := Lib.hid (show prevE E (j + 1) = e by unfold prevE; rw [if_neg (by omega), Nat.add_sub_cancel, List.getD_eq_getElem?_getD, hx]; rfl)
     have HPt := Lib.hid (show partsBy l 0 (E.take (j + 1)) = partsBy l 0 (E.take j) ++ [(l.drop (prevE E j)).take (e - prevE E j)] by
      have hkE := (List.getElem?_eq_some_iff.1 hx).1
      rw [List.take_add_one, hx, partsBy_append, prevE_take (Nat.le_of_lt hkE)]
      rfl)
     obtain ⟨s, hs⟩ : ∃ s, s = prevE E j := ⟨_, rfl⟩
     rw [← hs] at hse HPt ⊢
     obtain ⟨X, hX, hmid⟩ := midI A k c s e (s : Int) (e : Int) rfl rfl hse (by omega)
     have HB5 := Lib.hid (HB4.out.trans (HBr.out.mono hz4))
     have HRx := Lib.hid (show Reads wr w.heap.size 5 X (e - s) (itc ((l.drop s).take (e - s))) from by
      have h1 := it_drop (HR.out.below HB5.out) (show s ≤ k by omega) hnc
      rw [← hX] at h1
      exact it_take h1 (by omega))
     have HSe := Lib.hid (show ((l.drop s).take (e - s)).length = e - s by rw [List.length_take, List.length_drop, HL.out]; omega)
     have e1 : (0 : Int) ≤ j := by omega
     have e2 : (j : Int) < m4 := by omega
     have hz5 := HBr.out.size
     have hes : e - s ≤ 1000000 := by omega
     have HBase := Lib.hid (own_base HO.out)
     have HCell := Lib.hid (fun w' (hb : Below w4.heap.size w4 w') => show w'.cell? (ad.add j) = some (.int .i64 (e : Int)) from by
      obtain ⟨ad', x', hA', _, hx', hcc⟩ := iread_at (l := E.map fun (q : Nat) => (q : Int)) (by rw [← icells_of]; exact HO4.out.below hb) hlt
      injection hA' with hA'
      subst hA'
      rw [List.getElem?_map, hx] at hx'
      injection hx' with hx'
      rw [← hx'] at hcc
      exact hcc)
     have hmade : (wr.alloc (.cells #[] 46)).ownsRow wr.heap.size 46 5 (.slice (some ⟨wr.heap.size, 0, none⟩) 0 0) 0 [] := World.ownsRow_made wr #[] 0 (Nat.le_refl _) (by simp [maxLen]) rfl
     have HMade := Lib.hid hmade
     have hcA := HCell.out (wr.alloc (.cells #[] 46)) (HBr.out.alloc hz5 _)
     clear hs hX hx hmade
     go_wp2_with (at_builtin; first | (refine wpList_append_any _ rfl (.tmp 48) (.tmp 55) _ rfl wr.heap.size 46 k0 _ 5 56 Try.underlying23 hk0 hx0 hx1 hx2 rfl (by omega) _ 0 [] rfl HMade.out w.heap.size X (e - s) (c - s) _ rfl (HRx.out.below ((Below.refl w.heap.size wr).alloc (by omega) _)) (itc_oneB _) (by unfold maxLen; omega) (by omega) (by simp) ?_; intro v5 w5 hown5 hg5 hat5; simp only [Nat.zero_add, List.nil_append] at hown5; obtain ⟨A5, c5, rfl, _, _, _⟩ := own_form hown5; have HB6 := Lib.hid (((Below.refl wr.heap.size wr).alloc (Nat.le_refl _) (.cells #[] 46)).grown hg5 (by simp) (by rintro g ⟨⟩; exact Nat.le_refl _)); have HO5 := Lib.hid hown5; have HOx := Lib.hid (own_below HO.out HB6.out); have hz6 := HB6.out.size; clear hown5 hg5 hat5) | (refine wpList_append_any _ rfl (.tmp 47) (.tmp 57) _ rfl w4.heap.size 23 j0 _ 1 24 Try.underlying30 hj0 hy0 hy1 hy2 rfl (by omega) _ _ _ rfl (HOx.out.alloc _) (w5.heap.size + 1) (some ⟨w5.heap.size, 0, none⟩) 1 1 [.slice A5 (e - s) c5] rfl (one_read w5 23 _) (fun u hu => by simp at hu; subst hu; rfl) (by unfold maxLen; omega) (by omega) (by simp; omega) ?_; intro v6 w6 hown6 hg6 hat6; obtain ⟨A6, c6, rfl, _, _, _⟩ := own_form hown6; clear hat6; have HB7 := Lib.hid (((HBr.out.trans (HB6.out.mono HBr.out.size)).alloc (Nat.le_trans hz5 hz6) (.cells #[.slice A5 (e - s) c5] 23)).grown hg6 (by simp; omega) HBase.out); have HO7 := Lib.hid hown6; have HG6 := Lib.hid hg6; have hcc := HCell.out _ HB7.out; clear hown6 hg6))
     (try clear hcc)
     have HN5 := Lib.hid (((HNs.out.below HB6.out).below ((Below.refl _ w5).alloc (Nat.le_refl _) (.cells #[.slice A5 (e - s) c5] 23))).other (HOx.out.alloc (.cells #[.slice A5 (e - s) c5] 23)) (by decide) HG6.out)
     have HO6 := Lib.hid (show w6.ownsRow 0 46 5 (.slice A5 (e - s) c5) (e - s) (itc ((l.drop s).take (e - s))) from by
      refine (own_low (HO5.out.alloc (.cells #[.slice A5 (e - s) c5] 23)) (Nat.zero_le _)).kept HG6.out ?_
      rcases hb : (Value.slice A5 (e - s) c5).ownBlock with _ | b
      ·exact .inl rfl
      ·exact .inr fun h => own_ne_own (HO5.out.alloc (.cells #[.slice A5 (e - s) c5] 23)) (HOx.out.alloc (.cells #[.slice A5 (e - s) c5] 23)) (by decide) hb h.symm)
     have HN6 := Lib.hid (show NsAt 46 5 itc w6 (vs ++ [.slice A5 (e - s) c5]) (partsBy l 0 (E.take (j + 1))) from by
      rw [HPt.out]
      have h1 := HN5.out.snoc (p := (l.drop s).take (e - s)) (A := A5) (c := c5)
      rw [HSe.out] at h1
      exact h1 HO6.out)
     exact ⟨⟨j + 1, A6, c6, _, by omega, by go_num, by rw [HNx.out], rfl, HO7, HN6, HB7⟩, by simp [RowKit.intOf]; omega⟩
    ·obtain rfl : j = m4 := by omega
     have e2 : ¬ (j : Int) < j := by omega
     have HEj : E.take j = E := List.take_of_length_le (by have := HM4.out; omega)
     rw [HEj] at HNs
     have HBf := Lib.hid (HB4.out.trans (HBr.out.mono hz4))
     clear hlt hj HEj
     go_wp2_with fail
     go_ret2
     exact ⟨A', j, c', vs, by rw [HNod.out]; rfl, Reads.of_own HO.out, by rw [HNod.out]; exact HNs.out.read, HBf.out⟩
def endsI (P : List (List It)) : List Nat := (List.range P.length).map fun i => ((P.take (i + 1)).flatten).length
theorem endsI_take {P : List (List It)} {k : Nat} (h : k < P.length) : endsI (P.take (k + 1)) = endsI (P.take k) ++ [((P.take (k + 1)).flatten).length] := by
 unfold endsI
 rw [List.length_take, List.length_take, Nat.min_eq_left (by omega), Nat.min_eq_left (by omega), List.range_succ, List.map_append]
 congr 1
 ·refine List.map_congr_left fun i hi => ?_
  have := List.mem_range.1 hi
  rw [List.take_take, List.take_take, Nat.min_eq_left (by omega), Nat.min_eq_left (by omega)]
 ·simp [List.take_take]
theorem flatI_take {P : List (List It)} {k : Nat} {p : List It} (h : P[k]? = some p) : (P.take (k + 1)).flatten = (P.take k).flatten ++ p := by
 obtain ⟨hk, rfl⟩ := List.getElem?_eq_some_iff.1 h
 rw [List.take_succ_eq_append_getElem hk, List.flatten_append]
 simp
theorem flatI_le {P : List (List It)} {k : Nat} : (P.take k).flatten.length ≤ P.flatten.length := by
 conv => rhs; rw [← List.take_append_drop k P, List.flatten_append, List.length_append]
 omega
set_option maxRecDepth 100000 in
set_option maxHeartbeats 12800000 in
theorem flatI_any (A : Option Addr) (n c : Nat) (vs : List Value) (P : List (List It)) (w : World) (hr : Reads w w.heap.size 1 A n vs) (hp : NsRead 5 itc w vs P) (hn : n ≤ 1000000) (hf : P.flatten.length ≤ 1000000) :
  Calls Try.prog 13 #[.slice A n c] w fun e w' => ∃ A1 n1 c1 A2 n2 c2, e = .returned (.tuple #[.slice A1 n1 c1, .slice A2 n2 c2]) ∧ Reads w' w'.heap.size 5 A1 n1 (itc P.flatten) ∧ Reads w' w'.heap.size 1 A2 n2 (ncells (endsI P)) ∧ n1 ≤ c1 ∧ Below w.heap.size w w' := by
 obtain ⟨i0, hi0, hz0, hz1, hz2⟩ := info_parts infoI13
 obtain ⟨k0, hk0, hx0, hx1, hx2⟩ := info_parts infoBI
 have HR := Lib.hid hr
 have HP := Lib.hid hp
 have HN := Lib.hid (hp.len hr)
 have HF := Lib.hid hf
 clear hr hp hf
 go_enter Try.func13, Try.ntmps13
 go_wp2_with fail
 go_loopw [4, 5, 6] (fun vo ve vi wr => ∃ (j m : Nat) (A1 : Option Addr) (c1 : Nat) (A2 : Option Addr) (c2 : Nat), j ≤ n ∧ vi = .int .i64 j ∧ vo = .slice A1 m c1 ∧ ve = .slice A2 j c2 ∧ Hid (m = (P.take j).flatten.length) ∧ Hid (wr.ownsRow w.heap.size 46 5 (.slice A1 m c1) m (itc (P.take j).flatten)) ∧ Hid (wr.ownsRow w.heap.size 3 1 (.slice A2 j c2) j (ncells (endsI (P.take j)))) ∧ Hid (Below w.heap.size w wr)) (fun _ _ vi _ => n - (RowKit.intOf vi).toNat)
 case atStart => exact ⟨0, 0, none, 0, none, 0, Nat.zero_le _, rfl, rfl, rfl, Lib.hid (by simp), Lib.hid (World.ownsRow_nil _ _ _ _), Lib.hid (World.ownsRow_nil _ _ _ _), Lib.hid (Below.refl _ _)⟩
 case round =>
  obtain ⟨j, m, A1, c1, A2, c2, hj, rfl, rfl, rfl, HM, H1, H2, HBr⟩ := hrel
  by_cases hlt : j < n
  ·obtain ⟨ad, A', c', p, rfl, _, hx, hc, hrp, _⟩ := (HP.out.below HBr.out).at_ (HR.out.below HBr.out) hlt
   have HFt := Lib.hid (flatI_take hx)
   have HEt := Lib.hid (endsI_take (P := P) (k := j) (by rw [HN.out]; exact hlt))
   have hfl := flatI_le (P := P) (k := j + 1)
   rw [HFt.out, List.length_append, ← HM.out] at hfl
   have hf9 := HF.out
   have hmp : m + p.length ≤ 1000000 := by omega
   have HRp := Lib.hid hrp
   have hsz := HBr.out.size
   have HB1 := Lib.hid (own_base H1.out)
   have HB2 := Lib.hid (own_base H2.out)
   have e1 : (0 : Int) ≤ j := by omega
   have e2 : (j : Int) < n := by omega
   have HTy := Lib.hid (show ∀ b, (Value.slice A2 j c2).ownBlock = some b → (Value.slice A1 m c1).ownBlock ≠ some b from fun b hb => own_ne_own H2.out H1.out (by decide) hb)
   have HX2 := Lib.hid H2.out
   clear hx hrp hfl hf9
   go_wp2_with (at_builtin; first | (refine wpList_append_any _ rfl (.tmp 13) (.tmp 17) _ rfl w.heap.size 46 k0 _ 5 56 Try.underlying23 hk0 hx0 hx1 hx2 rfl (by omega) _ _ _ rfl H1.out wr.heap.size A' p.length c' _ rfl HRp.out (itc_oneB _) (by unfold maxLen; omega) (by omega) hsz ?_; intro v5 w5 hown5 hg5 hat5; obtain ⟨A5, c5, rfl, _, _, _⟩ := own_form hown5; clear hat5; have HO5 := Lib.hid hown5; have HB5 := Lib.hid (HBr.out.grown hg5 hsz HB1.out); have H25 := Lib.hid (HX2.out.kept hg5 (by rcases hb : (Value.slice A2 j c2).ownBlock with _ | b; exact .inl rfl; exact .inr fun h => HTy.out b hb h.symm)); have hz5 := hg5.size; clear hown5 hg5) | (refine wpList_append_any _ rfl (.tmp 19) (.tmp 22) _ rfl w.heap.size 3 i0 _ 1 8 Try.underlying22 hi0 hz0 hz1 hz2 rfl (by omega) _ _ _ rfl (H25.out.alloc _) (w5.heap.size + 1) (some ⟨w5.heap.size, 0, none⟩) 1 1 [.int .i64 ((m + p.length : Nat) : Int)] rfl (one_read w5 3 (.int .i64 ((m + p.length : Nat) : Int))) (fun u hu => by simp at hu; subst hu; rfl) (by unfold maxLen; omega) (by omega) (by simp; omega) ?_; intro v6 w6 hown6 hg6 hat6; obtain ⟨A6, c6, rfl, _, _, _⟩ := own_form hown6; clear hat6; have HO6 := Lib.hid hown6; have HG6 := Lib.hid hg6; clear hown6 hg6))
   have H16 := Lib.hid ((HO5.out.alloc (.cells #[.int .i64 ((m + p.length : Nat) : Int)] 3)).kept HG6.out (by
    rcases hb : (Value.slice A5 (m + p.length) c5).ownBlock with _ | b
    ·exact .inl rfl
    ·exact .inr fun h => own_ne_own (HO5.out.alloc (.cells #[.int .i64 ((m + p.length : Nat) : Int)] 3)) (H25.out.alloc (.cells #[.int .i64 ((m + p.length : Nat) : Int)] 3)) (by decide) hb h.symm))
   have HB6 := Lib.hid ((HB5.out.alloc HB5.out.size (.cells #[.int .i64 ((m + p.length : Nat) : Int)] 3)).grown HG6.out (by have := HB5.out.size; simp; omega) HB2.out)
   have HMn := Lib.hid (show m + p.length = (P.take (j + 1)).flatten.length by rw [HFt.out, List.length_append, ← HM.out])
   refine ⟨⟨j + 1, m + p.length, A5, c5, A6, c6, by omega, by go_num, rfl, rfl, HMn, Lib.hid ?_, Lib.hid ?_, HB6⟩, by simp [RowKit.intOf]; omega⟩
   ·rw [HFt.out, itc_append]
    exact H16.out
   ·rw [HEt.out, ← HMn.out, ← ncells_snoc]
    exact HO6.out
  ·obtain rfl : j = n := by omega
   have e2 : ¬ (j : Int) < j := by omega
   have hte : P.take j = P := List.take_of_length_le (by rw [HN.out]; exact Nat.le_refl _)
   rw [hte] at H1 H2
   obtain ⟨_, _, hv, hcc, _⟩ := own_form H1.out
   cases hv
   clear hlt hj hte
   go_wp2_with fail
   go_ret2
   first
    | exact ⟨A1, m, c1, A2, j, c2, rfl, Reads.of_own H1.out, Reads.of_own H2.out, hcc, HBr.out⟩
    | exact ⟨A1, m, c1, A2, j, ⟨c2, rfl⟩, Reads.of_own H1.out, Reads.of_own H2.out, hcc, HBr.out⟩
end Go.Proofs.Ytgnpldlgdapehaa

