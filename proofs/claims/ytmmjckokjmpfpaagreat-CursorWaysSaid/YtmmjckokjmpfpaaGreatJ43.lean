/-
  Texts that the main proof rests on, put together: CuGet, CuPages, CuLaw, BkOpen, PrOpen, FnRow. No statement is proved here.
-/
import Derived.Test.YtmmjckokjmpfpaaGreatJ42
import Derived.Test.YtmmjckokjmpfpaaGreatJ21
import Derived.Deep.QuietTactic
import Derived.BigQuiet
import Derived.Test.YtmmjckokjmpfpaaGreatJ40
import Derived.Test.YtmmjckokjmpfpaaGreatJ35
import Derived.Test.YtmmjckokjmpfpaaGreatJ41
import Derived.Test.YtmmjckokjmpfpaaGreatJ8
import Derived.Deep.Slices
import Derived.ChangeSame
import Derived.SizedLaws
import Derived.Test.YtmmjckokjmpfpaaGreatJ34
import Derived.Test.YtmmjckokjmpfpaaGreatJ12
import Derived.Deep.CutRange
set_option linter.unusedVariables false
set_option linter.unusedSimpArgs false
namespace Go.Proofs.YtmmjckokjmpfpaaGreat
open Go.RowKit
open Go.Lib hiding intOf
attribute [local go_sem ↓] Go.wp_at_zero Go.wp_at_succ

theorem desc_num {sz : Int} {img : ByteArray} {key : ByteArray} : ∀ {d n : Nat} {P Q : List Nat} {l : List It} {k : Nat} {x : It}, descT sz img key d n P = some (Q, l) → l[k]? = some x → x.hd < 4294967296 ∧ (-9223372036854775808 ≤ x.ln ∧ x.ln ≤ 9223372036854775807)
 | 0, _, _, _, _, _, _, h, _ => by simp [descT] at h
 | d + 1, n, P, Q, l, k, x, h, hx => by
  simp only [descT] at h
  split at h
  ·cases h
  ·rcases hn : nodeN sz img n with _ | l' | l'
   ·rw [hn] at h; cases h
   ·rw [hn] at h
    exact desc_num h hx
   ·rw [hn] at h
    injection h with h
    injection h with _ h
    subst h
    exact item_num hn hx
theorem path_num {sz : Int} {img : ByteArray} {root : Nat} {key : ByteArray} {P : List Nat} {l : List It} {k : Nat} {x : It} (h : pathV sz img root key = some (P, l)) (hx : l[k]? = some x) : x.hd < 4294967296 ∧ (-9223372036854775808 ≤ x.ln ∧ x.ln ≤ 9223372036854775807) := by
 unfold pathV at h
 split at h
 ·split at h
  ·injection h with h
   injection h with _ h
   subst h
   simp at hx
  ·exact desc_num h hx
 ·cases h
theorem cpath_any (sz : Int) (img : ByteArray) (root : Nat) (key : ByteArray) (w : World) (hi : img.size ≤ 400000) (hr : root < 4294967296) :
  Calls Tryz.prog 14 #[.int .i64 sz, .string img, .int .u32 root, .string key] w fun e w' => ∃ A n c, e = .returned (.tuple #[.slice A n c, .int .i64 (pathE sz img root key)]) ∧ Reads w' w'.heap.size 1 A n (ucells (pathL sz img root key)) ∧ n ≤ 16 ∧ n ≤ c ∧ Below w.heap.size w w' := by
 have HD := Lib.hid (descend_any sz img root key w hi hr)
 clear hi hr
 go_enter Tryz.func14, Tryz.ntmps14
 go_wp2_with fail
 refine HD.out.mono ?_
 rintro e w1 ⟨A, n, c, A2, n2, c2, rfl, hr1, hr2, hn, hn2, hc, hc2, hb⟩
 have HP := Lib.hid (show Reads w1 w1.heap.size 1 A n (ucells (pathL sz img root key)) ∧ n ≤ 16 ∧ n ≤ c ∧ Below w.heap.size w w1 from ⟨hr1, hn, hc, hb⟩)
 clear hr1 hr2 hn hn2 hc hc2 hb
 go_wp2_with fail
 go_ret2
 exact ⟨A, n, c, rfl, HP.out⟩
theorem cdepth_any (sz : Int) (img : ByteArray) (root : Nat) (w : World) (hi : img.size ≤ 400000) (hr : root < 4294967296) :
  Calls Tryz.prog 16 #[.int .i64 sz, .string img, .int .u32 root] w fun e w' => e = .returned (.tuple #[.int .i64 ((pathL sz img root ⟨#[]⟩).length : Int), .int .i64 (pathE sz img root ⟨#[]⟩)]) ∧ Below w.heap.size w w' := by
 have HD := Lib.hid (cpath_any sz img root ⟨#[]⟩ w hi hr)
 clear hi hr
 go_enter Tryz.func16, Tryz.ntmps16
 go_wp2_with fail
 refine HD.out.mono ?_
 rintro e w1 ⟨A, n, c, rfl, hr1, hn, hc, hb⟩
 have hl : (pathL sz img root ⟨#[]⟩).length = n := by have := hr1.1; simpa [ucells] using this
 have HP := Lib.hid (show Below w.heap.size w w1 from hb)
 have HL := Lib.hid hl
 clear hr1 hc hb hl
 go_wp2_with fail
 go_ret2
 rw [HL.out]
 exact ⟨rfl, HP.out⟩
set_option maxRecDepth 100000 in
set_option maxHeartbeats 6400000 in
theorem cget_any (sz : Int) (img : ByteArray) (root : Nat) (key : ByteArray) (w : World) (hi : img.size ≤ 400000) (hr : root < 4294967296) :
  Calls Tryz.prog 13 #[.int .i64 sz, .string img, .int .u32 root, .string key] w fun e w' => e = .returned (.tuple #[.string (getV sz img root key).1, .int .i64 (getV sz img root key).2]) ∧ Below w.heap.size w w' := by
 have HD := Lib.hid (descend_any sz img root key w hi hr)
 obtain ⟨E, hE⟩ : ∃ E, E = pathE sz img root key := ⟨_, rfl⟩
 obtain ⟨I, hI⟩ : ∃ I, I = pathI sz img root key := ⟨_, rfl⟩
 obtain ⟨r, hr'⟩ : ∃ r, r = getV sz img root key := ⟨_, rfl⟩
 have HG := Lib.hid (show r = if E ≠ 0 then (⟨#[]⟩, E) else if findB I key then (match I[findN I key]? with
   | some i => match valN sz img i with
    | some (v, _) => (v, 0)
    | none => (⟨#[]⟩, 4)
   | none => (⟨#[]⟩, 5)) else (⟨#[]⟩, 5) by rw [hr', hE, hI]; rfl)
 unfold DescPost at HD
 rw [← hE, ← hI] at HD
 rw [← hr']
 have HSz := Lib.hid hi
 have HEq := Lib.hid hE
 have HIq := Lib.hid hI
 clear hE hI hr' hi hr
 obtain ⟨hzi, hii⟩ := zero_of_info infoItz
 have HII := Lib.hid hii
 clear hii
 go_enter Tryz.func13, Tryz.ntmps13
 go_wp2_with fail
 refine HD.out.mono ?_
 rintro e w1 ⟨A, n, c, A2, n2, c2, rfl, hr1, hr2, hn, hn2, hc, hc2, hb⟩
 have HB := Lib.hid hb
 have HR := Lib.hid hr2
 clear hr1 hr2 hn hc hb
 by_cases h0 : E = 0
 rotate_left
 ·have h1 : (E != 0) = true := by simpa using h0
  have HE := Lib.hid (show r = (⟨#[]⟩, E) by rw [HG.out, if_pos h0])
  clear h0
  go_wp2_with fail
  go_ret2
  rw [HE.out]
  exact ⟨rfl, HB.out⟩
 subst h0
 have HF := Lib.hid (lfind_any A2 n2 c2 I key w1 HR.out (by omega))
 have hl : I.length = n2 := it_len HR.out
 rcases hf : findB I key with _ | _
 ·rw [hf] at HF
  have HE := Lib.hid (show r = (⟨#[]⟩, 5) by rw [HG.out, hf]; rfl)
  clear hf hl
  go_wp2_with fail
  refine HF.out.mono ?_
  rintro e w2 ⟨rfl, hb2⟩
  have HB2 := Lib.hid (HB.out.trans (hb2.mono HB.out.size))
  clear hb2
  go_wp2_with fail
  go_ret2
  rw [HE.out]
  exact ⟨rfl, HB2.out⟩
 ·rw [hf] at HF
  obtain ⟨p, hp⟩ : ∃ p, p = findN I key := ⟨_, rfl⟩
  have hpn : p < n2 := by
   rw [← hl]
   unfold findB at hf
   rw [← hp] at hf
   rcases hx : I[p]? with _ | x
   ·rw [hx] at hf; cases hf
   ·exact (List.getElem?_eq_some_iff.1 hx).1
  obtain ⟨ad, x, rfl, hab, hab2, hx, hfk⟩ := it_at HR.out hpn
  have HV := Lib.hid (show r = match valN sz img x with
    | some (v, _) => (v, 0)
    | none => (⟨#[]⟩, 4) by rw [HG.out, hf, if_neg (by simp), if_pos rfl, ← hp]; simp only [hx])
  have hgood : goodSize sz = true := by
   have h := HEq.out
   unfold pathE at h
   rcases hg : goodSize sz with _ | _
   ·rw [hg] at h; simp at h
   ·rfl
  have hin : x.hd < 4294967296 ∧ (-9223372036854775808 ≤ x.ln ∧ x.ln ≤ 9223372036854775807) := by
   have h := HIq.out
   unfold pathI at h
   rcases hpv : pathV sz img root key with _ | ⟨P, l⟩
   ·rw [hpv] at h; rw [h] at hx; simp at hx
   ·rw [hpv] at h
    simp at h
    subst h
    exact path_num hpv hx
  have HVal := fun w => value_any sz img x w (by have := HSz.out; omega) hin.1 hin.2
  rw [← hp] at HF
  clear hf hp hin hl
  go_wp2_with fail
  refine HF.out.mono ?_
  rintro e w2 ⟨rfl, hb2⟩
  have HB2 := Lib.hid (HB.out.trans (hb2.mono HB.out.size))
  obtain ⟨f0, f1, f2, f3, f4⟩ := hfk.below hb2 hab2
  have HGd := Lib.hid hgood
  obtain ⟨ky, vl, ov, ln, hd⟩ := x
  dsimp only at f0 f1 f2 f3 f4 HVal
  obtain ⟨o, ho⟩ : ∃ o, o = valN sz img ⟨ky, vl, ov, ln, hd⟩ := ⟨_, rfl⟩
  rw [← ho] at HV HVal
  have HVl := Lib.hid HVal
  clear hb2 hab hab2 hx hfk HVal ho hgood
  go_wp2_with fail
  refine (HVl.out _).mono ?_
  rintro e w3 ⟨Ac, nc, cc, rfl, hrc, hb3⟩
  have HB3 := Lib.hid (HB2.out.trans (hb3.mono HB2.out.size))
  have HE := Lib.hid (show r = (rdStr o, valE sz o) by
   rw [HV.out]
   rcases o with _ | ⟨v, ps⟩
   ·unfold valE rdErr
    rw [HGd.out]
    rfl
   ·rfl)
  clear hrc hb3
  go_wp2_with fail
  go_ret2
  rw [HE.out]
  exact ⟨rfl, HB3.out⟩
end Go.Proofs.YtmmjckokjmpfpaaGreat

namespace Go.Proofs.YtmmjckokjmpfpaaGreat
open Go.RowKit Go.Shelf
attribute [local go_sem] Oper.semAt_some
attribute [local go_sem ↓] Go.wp_at_zero Go.wp_at_succ

def lastE (l : List (Pr × Int)) : Int := (l.getLast?.map (·.2)).getD 0
theorem lastE_snoc (l : List (Pr × Int)) (x : Pr × Int) : lastE (l ++ [x]) = x.2 := by simp [lastE]
theorem lastE_tree {size : Int} {s : ByteArray} {root : Nat} : lastE (treeS size s root) = treeE size s root := by
 unfold treeS stepsT
 by_cases h : treeE size s root = 0
 ·rw [if_pos h, h, List.append_nil]
  generalize (treeV size s root).1 = l
  unfold lastE
  rw [List.getLast?_map]
  cases l.getLast? <;> rfl
 ·rw [if_neg h, lastE_snoc]
def PagesJ (b : Nat) (pre : List (Pr × Int)) (U : Nat → Prop) (W : World) : Prop := (∀ k, U k ↔ k = b) ∧ Boxed W b 28 (.int .i64 (lastE pre))
theorem pages1_any (b : Nat) (x : Pr × Int) (pre : List (Pr × Int)) (w : World) (h : Boxed w b 28 (.int .i64 (lastE pre))) :
  Calls Tryz.prog 44 (encP x ++ #[.pointer (some ⟨b, 0, none⟩)]) w fun e w' => e = .returned (.bool true) ∧ Boxed w' b 28 (.int .i64 x.2) ∧ Kept (fun k => k = b) w w' := by
 obtain ⟨⟨ky, vl⟩, er⟩ := x
 have h' := h.alloc (.cells #[.string ky, .string vl] 55)
 have c := h'.cell
 have f := h'.frozen
 have HB := Lib.hid h'
 have HK := Lib.hid (show Kept (fun k => k = b) w ((w.alloc (.cells #[.string ky, .string vl] 55)).setCell ⟨b, 0, none⟩ (.int .i64 er)) from ((Kept.refl (fun k => k = b) w).alloc _).setCell (p := ⟨b, 0, none⟩) (.inl rfl) _)
 clear h h'
 simp only [encP, List.append_toArray, List.cons_append, List.nil_append]
 go_enter Tryz.func44, Tryz.ntmps44
 go_wp2_with fail
 go_ret
 exact ⟨rfl, HB.out.set _, HK.out⟩
set_option maxRecDepth 100000 in
theorem eg_pages1 : ∀ args w, (callFunc 44 args).run Tryz.prog w = .ok (.enter 44 args) w := fun _ _ => by first | rfl | kernel_rfl
set_option maxRecDepth 100000 in
theorem pages_hears (b : Nat) (XS : List (Pr × Int)) : Hears XS (PagesJ b) (fun _ _ _ => False) (.func (.func 44) #[] #[.pointer (some ⟨b, 0, none⟩)]) where
 sJ := fun pre U W W' h hk => ⟨h.1, (hk.block b h.2.lt ((h.1 b).2 rfl)).trans h.2⟩
 sJx := fun _ _ _ _ h _ => h
 lJ := fun pre U W h k hk => by
  obtain rfl := (h.1 k).1 hk
  exact h.2.lt
 lJx := fun _ _ _ h => h.elim
 tell := fun pre x U W h hx => .inr ⟨_, _, rfl, eg_pages1, (pages1_any b x pre W h.2).mono fun e w' ⟨h1, h2, h3⟩ => .inl ⟨h1, U, fun k hk => .inl hk, h3.mono (fun k e => (h.1 k).2 e), h.1, by rw [lastE_snoc]; exact h2⟩⟩
set_option maxRecDepth 100000 in
set_option maxHeartbeats 6400000 in
theorem cpages_any (sz : Int) (img : ByteArray) (root : Nat) (w : World) (hi : img.size ≤ 400000) (hr : root < 4294967296) :
  Calls Tryz.prog 15 #[.int .i64 sz, .string img, .int .u32 root] w fun e w' => ∃ A n c, e = .returned (.tuple #[.slice A n c, .int .i64 (treeE sz img root)]) ∧ Reads w' w'.heap.size 1 A n (ucells (((treeV sz img root).2).getD [])) ∧ Below w.heap.size w w' := by
 have hmf : ∀ (fn : Fn) (first cap : Array Value) (w : World), (Instr.makeFunc fn first cap).run Tryz.prog w = .ok (.func fn first cap) w := fun _ _ _ _ => rfl
 have HI := Lib.hid hi
 have HR := Lib.hid hr
 obtain ⟨E, hE⟩ : ∃ E, E = treeE sz img root := ⟨_, rfl⟩
 rw [← hE]
 have HEq := Lib.hid hE
 clear hi hr hE
 go_enter Tryz.func15, Tryz.ntmps15
 go_wp2_with fail
 refine (visitor_any sz img _).mono ?_
 rintro e w1 ⟨rfl, hb1, hv1, hs⟩
 have HSz := Lib.hid hs
 have HB1 := Lib.hid hb1
 clear hs hb1
 go_upto_region 3 with fail
 have hs1 := HSz.out
 have hb1 := HB1.out
 obtain ⟨w2, hw2⟩ : ∃ y, y = w1.alloc (.cells #[.int .i64 0] 28) := ⟨_, rfl⟩
 obtain ⟨b, hb⟩ : ∃ b, b = w1.heap.size := ⟨_, rfl⟩
 have hbx : Boxed w2 b 28 (.int .i64 0) := by rw [hw2, hb]; exact Boxed.new _ _ _
 have hv2 : Vis w2 (w.heap.size + 1) w.heap.size sz img [] (.slice none 0 0) := by rw [hw2]; exact hv1.below ((Below.refl _ _).alloc (Nat.le_refl _) _)
 have hb2 : Below w.heap.size w w2 := by rw [hw2]; exact hb1.alloc (by omega) _
 have HT := Lib.hid (tree_any sz img root (pages_hears b (treeS sz img root)) (w.heap.size + 1) w.heap.size HI.out HR.out _ (fun k => k = b) w2 hv2 (fun k hk hu => by rcases hk with h | h | h <;> (try simp [Value.ownBlock] at h) <;> omega) ⟨fun _ => Iff.rfl, hbx⟩)
 have HB2 := Lib.hid hb2
 have HS2 := Lib.hid (show w.heap.size + 2 ≤ b by omega)
 clear hb1 hv1 hv2 hb2 hbx
 rw [← hw2, ← hb]
 clear hw2 hb hs1 HSz HB1
 go_wp2_with fail
 refine HT.out.mono ?_
 rintro e w3 ⟨⟨v, rfl⟩, V', U', hf, hq⟩
 have hj : PagesJ b (treeS sz img root) U' w3 ∧ ∀ M, (treeV sz img root).2 = some M → Vis w3 (w.heap.size + 1) w.heap.size sz img M V' := hq.elim id (fun h => h.elim fun q h => h.2.elim)
 have HB3 := Lib.hid (show Below w.heap.size w w3 from HB2.out.trans (hf.kept.below (fun k hk => by have h2 := HS2.out; rcases hk with (h | h | h) | h <;> (try simp [Value.ownBlock] at h) <;> omega) HB2.out.size))
 have hbx := hj.1.2
 rw [lastE_tree] at hbx
 have c3 := hbx.cell
 have HVi := Lib.hid hj.2
 clear hf hq hj hbx HT HB2
 have hE := HEq.out
 rw [← hE] at c3
 by_cases h0 : E = 0
 ·have hM : ∃ M, (treeV sz img root).2 = some M := by
   unfold treeE at hE
   rcases hm : (treeV sz img root).2 with _ | M
   ·rw [hm] at hE; simp at hE; split at hE <;> omega
   ·exact ⟨M, rfl⟩
  obtain ⟨M, hM⟩ := hM
  have HV3 := Lib.hid (HVi.out M hM)
  obtain ⟨A, c, hV, _, _, _⟩ := own_form HV3.out.row
  subst hV
  have HRd := Lib.hid (Reads.of_own HV3.out.row)
  have HM := Lib.hid hM
  have c4 := HV3.out.blk.cell 3
  simp at c4
  subst h0
  clear hE hM HVi
  go_wp2_with fail
  go_ret2
  rw [HM.out]
  exact ⟨A, _, c, rfl, HRd.out, HB3.out⟩
 ·have hM : (treeV sz img root).2 = none := by
   unfold treeE at hE
   rcases hm : (treeV sz img root).2 with _ | M
   ·rfl
   ·rcases hg : goodSize sz with _ | _
    ·unfold treeV at hm; rw [hg] at hm; cases hm
    ·rw [hm, hg] at hE; simp at hE; exact absurd hE h0
  have HM := Lib.hid hM
  have h1 : (E != 0) = true := by simpa using h0
  clear hE hM HVi h0
  go_upto_region 5 with fail
  go_quiet (fail)
  go_wp2_with fail
  go_ret2
  rw [HM.out]
  exact ⟨none, 0, 0, rfl, Reads.none_, below_drewN HB3.out nq⟩
end Go.Proofs.YtmmjckokjmpfpaaGreat

namespace Go.Proofs.YtmmjckokjmpfpaaGreat
open Go.RowKit
open Go.Lib hiding intOf
attribute [local go_sem ↓] Go.wp_at_zero Go.wp_at_succ

def fewL : List Pr := [⟨⟨#[97]⟩, ⟨#[49]⟩⟩, ⟨⟨#[98]⟩, ⟨#[50]⟩⟩, ⟨⟨#[99]⟩, ⟨#[]⟩⟩]
theorem fewL_light : lightP fewL = true := by decide +kernel
theorem fewL_asc : (fewL.map (·.ky)).Pairwise lessB := by
 simp [fewL, lessB]
 decide +kernel
theorem fewL_few : FewP fewL := ⟨by decide +kernel, (lightP_parts fewL_light).2, fewL_asc⟩
theorem fewL_ok : okY fewL = true := by decide +kernel
theorem fewL_root : rootY fewL = 2 := by decide +kernel
theorem fewL_from : lessN ⟨#[98]⟩ fewL = 1 := by decide +kernel
theorem treeS_len {l : List Pr} {im : ByteArray} {r : Nat} (h1 : (treeV 128 im r).1.length ≤ 60) : (treeS 128 im r).length ≤ 20000 ∧ ∀ key, (fromS 128 im r key).length ≤ 20000 := by
 have h : (treeS 128 im r).length ≤ 61 := by
  unfold treeS stepsT
  rw [List.length_append, List.length_map]
  split
  ·simp; omega
  ·simp; omega
 refine ⟨by omega, fun key => ?_⟩
 unfold fromS
 have := List.length_filter_le (keepK key) (treeS 128 im r)
 omega
theorem prc_at {w : World} (L : List Pr) {A : Option Addr} {cs : Array Value} {g : Nat} {t : TypeId} (h : Blk w g t cs) (hc : cs.toList = prc L) : Reads w w.heap.size 2 (some ⟨g, 0, none⟩) L.length (prc L) := by
 refine ⟨by rw [prc, rowsOf_length Pr.cells_len], fun h0 => ⟨⟨g, 0, none⟩, rfl, h.lt, fun j u hu => ?_⟩⟩
 rw [show (⟨g, 0, none⟩ : Addr).add j = ⟨g, j, none⟩ by unfold Addr.add; split <;> simp_all, h.cell j, ← hu, ← hc]
 simp
set_option maxRecDepth 100000 in
set_option maxHeartbeats 6400000 in
theorem few_any (w : World) : Calls Tryz.prog 12 #[] w fun e w' => ∃ A, e = .returned (.slice A 3 3) ∧ Reads w' w'.heap.size 2 A 3 (prc fewL) ∧ Below w.heap.size w w' := by
 go_enter Tryz.func12, Tryz.ntmps12
 go_wp2_with fail
 go_ret
 exact ⟨_, rfl, prc_at fewL (A := none) (Blk.new w _ _) rfl, (Below.refl _ _).alloc (Nat.le_refl _) _⟩
theorem laid2_any (A : Option Addr) (n c : Nat) (l : List Pr) (w : World) (hr : Reads w w.heap.size 2 A n (prc l)) (hk : FewP l) :
  Calls Tryz.prog 11 #[.int .i64 128, .slice A n c] w fun e w' => Below w.heap.size w w' ∧ ((okY l = false ∧ e = .returned (.tuple #[.string ⟨#[]⟩, .int .u32 0, .bool false])) ∨ (okY l = true ∧ e = .returned (.tuple #[.string (imY l), .int .u32 (rootY l), .bool true]))) := by
 refine (laid_any A n c l w hr hk.lay).mono ?_
 rintro e w' ⟨hb, h⟩
 refine ⟨hb, h.imp (fun h => h) fun ⟨h1, h2⟩ => ⟨h1, ?_⟩⟩
 rw [h2, (told hk h1).err]
 rfl
set_option maxRecDepth 100000 in
set_option maxHeartbeats 6400000 in
theorem lives12_any (w : World) : Calls Tryz.prog 10 #[] w fun e w' => e = .returned (.bool true) ∧ Below w.heap.size w w' := by
 have hT := told fewL_few fewL_ok
 have hrt := fewL_root
 obtain ⟨im, him⟩ : ∃ x, x = imY fewL := ⟨_, rfl⟩
 obtain ⟨r, hr⟩ : ∃ x, x = rootY fewL := ⟨_, rfl⟩
 rw [← him, ← hr] at hT
 have hN := (treeS_len (l := fewL) (im := im) (r := r) (by rw [hT.tree]; decide)).2 ⟨#[98]⟩
 have HA := Lib.hid (fun w => lall1_any 128 im r ⟨#[98]⟩ w hT.size hT.root hN)
 have hf : fromP ⟨#[98]⟩ (treeV 128 im r).1 = fewL.drop 1 := by rw [hT.tree, fromP_drop _ fewL_asc, fewL_from]
 rw [hf, hT.te] at HA
 have HL := Lib.hid (fun w A (h : Reads w w.heap.size 2 A 3 (prc fewL)) => laid2_any A 3 3 fewL w h fewL_few)
 rw [← him, ← hr, fewL_ok] at HL
 clear hN hf hT him hr hrt
 have HB := Lib.hid (Below.refl w.heap.size w)
 go_enter Tryz.func10, Tryz.ntmps10
 go_wp2_with fail
 refine (few_any _).mono ?_
 rintro e w1 ⟨A1, rfl, h1, hb⟩
 replace HB := Lib.hid (HB.out.trans (hb.mono HB.out.size))
 have HR1 := Lib.hid h1
 clear hb h1
 go_wp2_with fail
 refine (HL.out _ _ HR1.out).mono ?_
 rintro e w2 ⟨hb, ⟨h, _⟩ | ⟨_, rfl⟩⟩
 ·cases h
 replace HB := Lib.hid (HB.out.trans (hb.mono HB.out.size))
 clear hb HL HR1
 go_wp2_with fail
 refine (HA.out _).mono ?_
 rintro e w3 ⟨A3, n3, c3, rfl, h3, hb⟩
 replace HB := Lib.hid (HB.out.trans (hb.mono HB.out.size))
 have HR3 := Lib.hid h3
 have hn3 : n3 = 2 := by have := pr_len h3; simp [fewL] at this; omega
 subst hn3
 clear hb h3 HA
 go_wp2_with fail
 refine (few_any _).mono ?_
 rintro e w4 ⟨A4, rfl, h4, hb⟩
 replace HB := Lib.hid (HB.out.trans (hb.mono HB.out.size))
 have HR4 := Lib.hid h4
 replace HR3 := Lib.hid (HR3.out.below hb)
 clear hb h4
 obtain ⟨X, q, hX, hXr⟩ := partP_hi A4 3 3 1 (by omega) (by omega)
 have HX := Lib.hid (show Reads w4 w4.heap.size 2 X 2 (prc (fewL.drop 1)) from hXr w4 _ _ HR4.out)
 have hX2 : ∀ w : World, (Instr.sliceAt 26 (.slice A4 3 3) (some (.int .i64 1)) none none).run Tryz.prog w = .ok (.slice X 2 q) w := hX
 clear hXr hX
 go_wp2_with fail
 refine (same12_yes A3 2 c3 X q (fewL.drop 1) _ HR3.out HX.out (by decide)).mono ?_
 rintro e w5 ⟨rfl, q5, rfl⟩
 replace HB := Lib.hid (below_drewN HB.out q5)
 clear hX2
 go_wp2_with fail
 go_ret
 exact ⟨rfl, HB.out⟩
end Go.Proofs.YtmmjckokjmpfpaaGreat

namespace Go.Proofs.YtmmjckokjmpfpaaGreat
open Go.RowKit Go.ChangeShapes Go.WideShapes
open Go.Deep (open_slice choose_lt)

instance : Inhabited Bk := ⟨⟨⟨#[]⟩, 0, 0⟩⟩
theorem lit_u32' {z : Int} (h : (Lit.int .u32 z).wf = true) : 0 ≤ z ∧ z ≤ 4294967295 := by
 simp [Lit.wf, IntKind.min, IntKind.max, IntKind.signed, IntKind.bits] at h
 omega
section
variable {H : Type} {enc : TypeId × Value → H} {w : World} {base : Nat} {spare : Nat → Bool} {held : Bool}
end
end Go.Proofs.YtmmjckokjmpfpaaGreat

namespace Go.Proofs.YtmmjckokjmpfpaaGreat
open Go.RowKit Go.ChangeShapes Go.WideShapes
open Go.Deep (open_slice choose_lt)

instance : Inhabited Pr := ⟨⟨⟨#[]⟩, ⟨#[]⟩⟩⟩
def Prs (w : World) (B : Nat) (A : Option Addr) (n c : Nat) (l : List Pr) : Prop := Reads w B 2 A n (prc l) ∧ n ≤ c ∧ c ≤ maxLen ∧ n ≤ 4398046511104 ∧ ∀ b, b ∈ l → b.ky.size ≤ 140737488351232 ∧ b.vl.size ≤ 140737488351232
theorem Prs.near {w : World} {B : Nat} {A : Option Addr} {n c : Nat} {l : List Pr} (h : Prs w B A n c l) : NearP l := h.2.2.2.2
section
variable {H : Type} {enc : TypeId × Value → H} {w : World} {base : Nat} {spare : Nat → Bool} {held : Bool}
theorem prs_weights {e : TypeId} {m : Nat} : ∀ {l : List (DataW H)} {d : DataW H}, d ∈ l → m ∈ d.weights Tryz.prog e → m ∈ DataW.weightsAll Tryz.prog e l
 | d0 :: l, d, hd, hm => by
  simp only [DataW.weightsAll, List.mem_append]
  rcases List.mem_cons.1 hd with rfl | hd
  ·exact .inl hm
  ·exact .inr (prs_weights hd hm)
set_option maxRecDepth 100000 in
theorem open_prw {fuel : Nat} {cs : Array Value} {x : DataW H × List MemPlace} (h : DataW.trod enc Tryz.prog w base spare held fuel 55 cs.toList = some x) (hz : cs.size = 2) :
  ∃ b : Pr, cs = b.cells.toArray ∧ b.ky.size ∈ x.1.weights Tryz.prog 55 ∧ b.vl.size ∈ x.1.weights Tryz.prog 55 := by
 obtain ⟨cl, hcl⟩ : ∃ cl, cl = cs.toList := ⟨_, rfl⟩
 have hlen : cl.length = 2 := by rw [hcl, Array.length_toList]; exact hz
 have hce : cs = cl.toArray := by rw [hcl]
 rw [← hcl] at h
 obtain ⟨xs, k', hk, hxy, _, hxl, hf⟩ := DataW.trod_struct Tryz.underlying55 h
 match xs, hxl, cl, hlen with
 | [y0, y1], _, [v0, v1], _ =>
  have g0 := hf 0 _ rfl
  have g1 := hf 1 _ rfl
  have hone : Tryz.prog.cellsOf 9 = 1 := by kernel_rfl
  simp [hone] at g0 g1
  obtain ⟨s0, hv0, hd0, hs0⟩ := DataW.trod_string Tryz.underlying9 g0
  obtain ⟨s1, hv1, hd1, hs1⟩ := DataW.trod_string Tryz.underlying9 g1
  simp at hv0 hv1
  subst hv0 hv1
  refine ⟨⟨s0, s1⟩, by rw [hce]; rfl, ?_, ?_⟩
  ·have hx1 : x.1 = .agg [y0.1, y1.1] := by rw [hxy]; rfl
   rw [hx1]
   simp only [DataW.weights, Tryz.underlying55]
   refine DataW.weights_mem_each (j := 0) rfl rfl _ ?_
   rw [hd0]
   simp [DataW.weights]
  ·have hx1 : x.1 = .agg [y0.1, y1.1] := by rw [hxy]; rfl
   rw [hx1]
   simp only [DataW.weights, Tryz.underlying55]
   refine DataW.weights_mem_each (j := 1) rfl rfl _ ?_
   rw [hd1]
   simp [DataW.weights]
theorem open_prs {fuel : Nat} {A : Option Addr} {n c : Nat} {x : DataW H × List MemPlace} (h : DataW.trod enc Tryz.prog w base (fun _ => true) held fuel 26 [.slice A n c] = some x) (hw : ∀ m ∈ x.1.weights Tryz.prog 26, m ≤ reachBytes) :
  ∃ l, Prs w w.heap.size A n c l := by
 rcases open_slice Tryz.underlying26 h with ⟨hv, _⟩ | ⟨a, len, cap, m, k, D, Pl, hv, hb, hl, hm, hmm, hx, hi⟩
 ·simp at hv
  obtain ⟨rfl, rfl, rfl⟩ := hv
  exact ⟨[], Reads.none_, Nat.le_refl _, by simp [maxLen], by omega, by simp⟩
 simp at hv
 obtain ⟨rfl, rfl, rfl⟩ := hv
 have hmm : m = c := by simpa using hmm
 subst hmm
 have hce : Tryz.prog.cellsOf 55 = 2 := by kernel_rfl
 have hby : Tryz.prog.bytesOf 55 = 32 := by kernel_rfl
 have hn : n ≤ 4398046511104 := by
  have := hw (((List.range n).map D).length * 32 + ((List.range (m - n)).map fun j => D (n + j)).length * 32) (by
   rw [hx]
   simp [DataW.weights, Tryz.underlying26, hby, Nat.add_mul])
  rw [List.length_map, List.length_range] at this
  unfold reachBytes at this
  omega
 have each : ∀ i, i < n → ∃ q : Pr, (∀ j u, q.cells[j]? = some u → w.cell? ((a.add (i * 2)).add j) = some u) ∧ (q.ky.size ≤ 140737488351232 ∧ q.vl.size ≤ 140737488351232) ∧ a.block < w.heap.size := by
  intro i hin
  obtain ⟨cs', h1, h2⟩ := hi i (by omega)
  rw [hce] at h1
  obtain ⟨_, hlen, hcell⟩ := World.cells?_some h1
  obtain ⟨b, e, hwt, hwt2⟩ := open_prw (cs := cs'.toArray) (by simpa using h2) (by simpa using hlen)
  have e' : cs' = b.cells := by
   have := congrArg Array.toList e
   simpa using this
  have hin2 : ∀ m, m ∈ (D i).weights Tryz.prog 55 → m ≤ reachBytes := fun m hm => hw _ (by
   rw [hx]
   simp only [DataW.weights, Tryz.underlying26, List.mem_cons, List.mem_append]
   exact .inr (.inl (prs_weights (d := D i) (List.mem_map.2 ⟨i, List.mem_range.2 hin, rfl⟩) hm)))
  have hnm := hin2 _ hwt
  have hnm2 := hin2 _ hwt2
  unfold reachBytes at hnm hnm2
  refine ⟨b, fun j u hu => ?_, ⟨hnm, hnm2⟩, ?_⟩
  ·have hj : j < 2 := by
    have := (List.getElem?_eq_some_iff.1 hu).1
    rwa [Pr.cells_len] at this
   rw [hcell j hj, e']
   exact hu
  ·have h0 := hcell 0 (by omega)
   rw [e'] at h0
   have := World.block_lt_of_cell? w _ h0
   simpa [block_add] using this
 obtain ⟨q, hq⟩ := choose_lt each
 have hlq : ((List.range n).map q).length = n := by simp
 refine ⟨(List.range n).map q, ⟨by rw [prc, rowsOf_length Pr.cells_len, hlq], fun h0 => ⟨a, rfl, (hq 0 (by omega)).2.2, fun j u hu => ?_⟩⟩, hl, hm, hn, fun b hb' => ?_⟩
 ·have hj : j < n * 2 := by
   have h1 := (List.getElem?_eq_some_iff.1 hu).1
   rw [prc, rowsOf_length Pr.cells_len, hlq] at h1
   exact h1
  have hd : j / 2 < n := by omega
  have hg := rowsOf_get Pr.cells_len ((List.range n).map q) (j / 2) (j % 2) (q (j / 2)) (by simp [hd]) (by omega)
  rw [show j / 2 * 2 + j % 2 = j by omega] at hg
  have hu' : (q (j / 2)).cells[j % 2]? = some u := by rw [← hg]; exact hu
  have := (hq (j / 2) hd).1 (j % 2) u hu'
  rw [add_add, show j / 2 * 2 + j % 2 = j by omega] at this
  exact this
 ·obtain ⟨i, hi', rfl⟩ := List.mem_map.1 hb'
  exact (hq i (List.mem_range.1 hi')).2.1
end
end Go.Proofs.YtmmjckokjmpfpaaGreat

namespace Go.Proofs.YtmmjckokjmpfpaaGreat
open Go.RowKit
open Go.Lib hiding intOf
attribute [local go_sem ↓] Go.wp_at_zero Go.wp_at_succ

theorem add_zero_addr (ad : Addr) : ad.add 0 = ad := by simp [Addr.add]
end Go.Proofs.YtmmjckokjmpfpaaGreat

