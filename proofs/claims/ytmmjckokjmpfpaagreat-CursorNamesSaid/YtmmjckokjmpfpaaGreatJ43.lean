/-
  Texts that the main proof rests on, put together: CuGet, CuPages, CuLaw, BkOpen, FnRow, CuNames. No statement is proved here.
-/
import Derived.Test.YtmmjckokjmpfpaaGreatJ42
import Derived.Test.YtmmjckokjmpfpaaGreatJ21
import Derived.Deep.QuietTactic
import Derived.BigQuiet
import Derived.Test.YtmmjckokjmpfpaaGreatJ40
import Derived.Test.YtmmjckokjmpfpaaGreatJ35
import Derived.Test.YtmmjckokjmpfpaaGreatJ41
import Derived.Test.YtmmjckokjmpfpaaGreatJ8
import Derived.Deep.Slices
import Derived.ChangeSame
import Derived.SizedLaws
import Derived.Test.YtmmjckokjmpfpaaGreatJ12
import Derived.Deep.CutRange
import Derived.Test.YtmmjckokjmpfpaaGreatJ19
import Derived.Test.YtmmjckokjmpfpaaGreatJ34
set_option linter.unusedVariables false
set_option linter.unusedSimpArgs false
namespace Go.Proofs.YtmmjckokjmpfpaaGreat
open Go.RowKit
open Go.Lib hiding intOf
attribute [local go_sem ↓] Go.wp_at_zero Go.wp_at_succ

theorem desc_num {sz : Int} {img : ByteArray} {key : ByteArray} : ∀ {d n : Nat} {P Q : List Nat} {l : List It} {k : Nat} {x : It}, descT sz img key d n P = some (Q, l) → l[k]? = some x → x.hd < 4294967296 ∧ (-9223372036854775808 ≤ x.ln ∧ x.ln ≤ 9223372036854775807)
 | 0, _, _, _, _, _, _, h, _ => by simp [descT] at h
 | d + 1, n, P, Q, l, k, x, h, hx => by
  simp only [descT] at h
  split at h
  ·cases h
  ·rcases hn : nodeN sz img n with _ | l' | l'
   ·rw [hn] at h; cases h
   ·rw [hn] at h
    exact desc_num h hx
   ·rw [hn] at h
    injection h with h
    injection h with _ h
    subst h
    exact item_num hn hx
theorem path_num {sz : Int} {img : ByteArray} {root : Nat} {key : ByteArray} {P : List Nat} {l : List It} {k : Nat} {x : It} (h : pathV sz img root key = some (P, l)) (hx : l[k]? = some x) : x.hd < 4294967296 ∧ (-9223372036854775808 ≤ x.ln ∧ x.ln ≤ 9223372036854775807) := by
 unfold pathV at h
 split at h
 ·split at h
  ·injection h with h
   injection h with _ h
   subst h
   simp at hx
  ·exact desc_num h hx
 ·cases h
theorem cpath_any (sz : Int) (img : ByteArray) (root : Nat) (key : ByteArray) (w : World) (hi : img.size ≤ 400000) (hr : root < 4294967296) :
  Calls Tryz.prog 14 #[.int .i64 sz, .string img, .int .u32 root, .string key] w fun e w' => ∃ A n c, e = .returned (.tuple #[.slice A n c, .int .i64 (pathE sz img root key)]) ∧ Reads w' w'.heap.size 1 A n (ucells (pathL sz img root key)) ∧ n ≤ 16 ∧ n ≤ c ∧ Below w.heap.size w w' := by
 have HD := Lib.hid (descend_any sz img root key w hi hr)
 clear hi hr
 go_enter Tryz.func14, Tryz.ntmps14
 go_wp2_with fail
 refine HD.out.mono ?_
 rintro e w1 ⟨A, n, c, A2, n2, c2, rfl, hr1, hr2, hn, hn2, hc, hc2, hb⟩
 have HP := Lib.hid (show Reads w1 w1.heap.size 1 A n (ucells (pathL sz img root key)) ∧ n ≤ 16 ∧ n ≤ c ∧ Below w.heap.size w w1 from ⟨hr1, hn, hc, hb⟩)
 clear hr1 hr2 hn hn2 hc hc2 hb
 go_wp2_with fail
 go_ret2
 exact ⟨A, n, c, rfl, HP.out⟩
theorem cdepth_any (sz : Int) (img : ByteArray) (root : Nat) (w : World) (hi : img.size ≤ 400000) (hr : root < 4294967296) :
  Calls Tryz.prog 16 #[.int .i64 sz, .string img, .int .u32 root] w fun e w' => e = .returned (.tuple #[.int .i64 ((pathL sz img root ⟨#[]⟩).length : Int), .int .i64 (pathE sz img root ⟨#[]⟩)]) ∧ Below w.heap.size w w' := by
 have HD := Lib.hid (cpath_any sz img root ⟨#[]⟩ w hi hr)
 clear hi hr
 go_enter Tryz.func16, Tryz.ntmps16
 go_wp2_with fail
 refine HD.out.mono ?_
 rintro e w1 ⟨A, n, c, rfl, hr1, hn, hc, hb⟩
 have hl : (pathL sz img root ⟨#[]⟩).length = n := by have := hr1.1; simpa [ucells] using this
 have HP := Lib.hid (show Below w.heap.size w w1 from hb)
 have HL := Lib.hid hl
 clear hr1 hc hb hl
 go_wp2_with fail
 go_ret2
 rw [HL.out]
 exact ⟨rfl, HP.out⟩
set_option maxRecDepth 100000 in
set_option maxHeartbeats 6400000 in
theorem cget_any (sz : Int) (img : ByteArray) (root : Nat) (key : ByteArray) (w : World) (hi : img.size ≤ 400000) (hr : root < 4294967296) :
  Calls Tryz.prog 13 #[.int .i64 sz, .string img, .int .u32 root, .string key] w fun e w' => e = .returned (.tuple #[.string (getV sz img root key).1, .int .i64 (getV sz img root key).2]) ∧ Below w.heap.size w w' := by
 have HD := Lib.hid (descend_any sz img root key w hi hr)
 obtain ⟨E, hE⟩ : ∃ E, E = pathE sz img root key := ⟨_, rfl⟩
 obtain ⟨I, hI⟩ : ∃ I, I = pathI sz img root key := ⟨_, rfl⟩
 obtain ⟨r, hr'⟩ : ∃ r, r = getV sz img root key := ⟨_, rfl⟩
 have HG := Lib.hid (show r = if E ≠ 0 then (⟨#[]⟩, E) else if findB I key then (match I[findN I key]? with
   | some i => match valN sz img i with
    | some (v, _) => (v, 0)
    | none => (⟨#[]⟩, 4)
   | none => (⟨#[]⟩, 5)) else (⟨#[]⟩, 5) by rw [hr', hE, hI]; rfl)
 unfold DescPost at HD
 rw [← hE, ← hI] at HD
 rw [← hr']
 have HSz := Lib.hid hi
 have HEq := Lib.hid hE
 have HIq := Lib.hid hI
 clear hE hI hr' hi hr
 obtain ⟨hzi, hii⟩ := zero_of_info infoItz
 have HII := Lib.hid hii
 clear hii
 go_enter Tryz.func13, Tryz.ntmps13
 go_wp2_with fail
 refine HD.out.mono ?_
 rintro e w1 ⟨A, n, c, A2, n2, c2, rfl, hr1, hr2, hn, hn2, hc, hc2, hb⟩
 have HB := Lib.hid hb
 have HR := Lib.hid hr2
 clear hr1 hr2 hn hc hb
 by_cases h0 : E = 0
 rotate_left
 ·have h1 : (E != 0) = true := by simpa using h0
  have HE := Lib.hid (show r = (⟨#[]⟩, E) by rw [HG.out, if_pos h0])
  clear h0
  go_wp2_with fail
  go_ret2
  rw [HE.out]
  exact ⟨rfl, HB.out⟩
 subst h0
 have HF := Lib.hid (lfind_any A2 n2 c2 I key w1 HR.out (by omega))
 have hl : I.length = n2 := it_len HR.out
 rcases hf : findB I key with _ | _
 ·rw [hf] at HF
  have HE := Lib.hid (show r = (⟨#[]⟩, 5) by rw [HG.out, hf]; rfl)
  clear hf hl
  go_wp2_with fail
  refine HF.out.mono ?_
  rintro e w2 ⟨rfl, hb2⟩
  have HB2 := Lib.hid (HB.out.trans (hb2.mono HB.out.size))
  clear hb2
  go_wp2_with fail
  go_ret2
  rw [HE.out]
  exact ⟨rfl, HB2.out⟩
 ·rw [hf] at HF
  obtain ⟨p, hp⟩ : ∃ p, p = findN I key := ⟨_, rfl⟩
  have hpn : p < n2 := by
   rw [← hl]
   unfold findB at hf
   rw [← hp] at hf
   rcases hx : I[p]? with _ | x
   ·rw [hx] at hf; cases hf
   ·exact (List.getElem?_eq_some_iff.1 hx).1
  obtain ⟨ad, x, rfl, hab, hab2, hx, hfk⟩ := it_at HR.out hpn
  have HV := Lib.hid (show r = match valN sz img x with
    | some (v, _) => (v, 0)
    | none => (⟨#[]⟩, 4) by rw [HG.out, hf, if_neg (by simp), if_pos rfl, ← hp]; simp only [hx])
  have hgood : goodSize sz = true := by
   have h := HEq.out
   unfold pathE at h
   rcases hg : goodSize sz with _ | _
   ·rw [hg] at h; simp at h
   ·rfl
  have hin : x.hd < 4294967296 ∧ (-9223372036854775808 ≤ x.ln ∧ x.ln ≤ 9223372036854775807) := by
   have h := HIq.out
   unfold pathI at h
   rcases hpv : pathV sz img root key with _ | ⟨P, l⟩
   ·rw [hpv] at h; rw [h] at hx; simp at hx
   ·rw [hpv] at h
    simp at h
    subst h
    exact path_num hpv hx
  have HVal := fun w => value_any sz img x w (by have := HSz.out; omega) hin.1 hin.2
  rw [← hp] at HF
  clear hf hp hin hl
  go_wp2_with fail
  refine HF.out.mono ?_
  rintro e w2 ⟨rfl, hb2⟩
  have HB2 := Lib.hid (HB.out.trans (hb2.mono HB.out.size))
  obtain ⟨f0, f1, f2, f3, f4⟩ := hfk.below hb2 hab2
  have HGd := Lib.hid hgood
  obtain ⟨ky, vl, ov, ln, hd⟩ := x
  dsimp only at f0 f1 f2 f3 f4 HVal
  obtain ⟨o, ho⟩ : ∃ o, o = valN sz img ⟨ky, vl, ov, ln, hd⟩ := ⟨_, rfl⟩
  rw [← ho] at HV HVal
  have HVl := Lib.hid HVal
  clear hb2 hab hab2 hx hfk HVal ho hgood
  go_wp2_with fail
  refine (HVl.out _).mono ?_
  rintro e w3 ⟨Ac, nc, cc, rfl, hrc, hb3⟩
  have HB3 := Lib.hid (HB2.out.trans (hb3.mono HB2.out.size))
  have HE := Lib.hid (show r = (rdStr o, valE sz o) by
   rw [HV.out]
   rcases o with _ | ⟨v, ps⟩
   ·unfold valE rdErr
    rw [HGd.out]
    rfl
   ·rfl)
  clear hrc hb3
  go_wp2_with fail
  go_ret2
  rw [HE.out]
  exact ⟨rfl, HB3.out⟩
end Go.Proofs.YtmmjckokjmpfpaaGreat

namespace Go.Proofs.YtmmjckokjmpfpaaGreat
open Go.RowKit Go.Shelf
attribute [local go_sem] Oper.semAt_some
attribute [local go_sem ↓] Go.wp_at_zero Go.wp_at_succ

def lastE (l : List (Pr × Int)) : Int := (l.getLast?.map (·.2)).getD 0
theorem lastE_snoc (l : List (Pr × Int)) (x : Pr × Int) : lastE (l ++ [x]) = x.2 := by simp [lastE]
theorem lastE_tree {size : Int} {s : ByteArray} {root : Nat} : lastE (treeS size s root) = treeE size s root := by
 unfold treeS stepsT
 by_cases h : treeE size s root = 0
 ·rw [if_pos h, h, List.append_nil]
  generalize (treeV size s root).1 = l
  unfold lastE
  rw [List.getLast?_map]
  cases l.getLast? <;> rfl
 ·rw [if_neg h, lastE_snoc]
def PagesJ (b : Nat) (pre : List (Pr × Int)) (U : Nat → Prop) (W : World) : Prop := (∀ k, U k ↔ k = b) ∧ Boxed W b 28 (.int .i64 (lastE pre))
theorem pages1_any (b : Nat) (x : Pr × Int) (pre : List (Pr × Int)) (w : World) (h : Boxed w b 28 (.int .i64 (lastE pre))) :
  Calls Tryz.prog 44 (encP x ++ #[.pointer (some ⟨b, 0, none⟩)]) w fun e w' => e = .returned (.bool true) ∧ Boxed w' b 28 (.int .i64 x.2) ∧ Kept (fun k => k = b) w w' := by
 obtain ⟨⟨ky, vl⟩, er⟩ := x
 have h' := h.alloc (.cells #[.string ky, .string vl] 55)
 have c := h'.cell
 have f := h'.frozen
 have HB := Lib.hid h'
 have HK := Lib.hid (show Kept (fun k => k = b) w ((w.alloc (.cells #[.string ky, .string vl] 55)).setCell ⟨b, 0, none⟩ (.int .i64 er)) from ((Kept.refl (fun k => k = b) w).alloc _).setCell (p := ⟨b, 0, none⟩) (.inl rfl) _)
 clear h h'
 simp only [encP, List.append_toArray, List.cons_append, List.nil_append]
 go_enter Tryz.func44, Tryz.ntmps44
 go_wp2_with fail
 go_ret
 exact ⟨rfl, HB.out.set _, HK.out⟩
set_option maxRecDepth 100000 in
theorem eg_pages1 : ∀ args w, (callFunc 44 args).run Tryz.prog w = .ok (.enter 44 args) w := fun _ _ => by first | rfl | kernel_rfl
set_option maxRecDepth 100000 in
theorem pages_hears (b : Nat) (XS : List (Pr × Int)) : Hears XS (PagesJ b) (fun _ _ _ => False) (.func (.func 44) #[] #[.pointer (some ⟨b, 0, none⟩)]) where
 sJ := fun pre U W W' h hk => ⟨h.1, (hk.block b h.2.lt ((h.1 b).2 rfl)).trans h.2⟩
 sJx := fun _ _ _ _ h _ => h
 lJ := fun pre U W h k hk => by
  obtain rfl := (h.1 k).1 hk
  exact h.2.lt
 lJx := fun _ _ _ h => h.elim
 tell := fun pre x U W h hx => .inr ⟨_, _, rfl, eg_pages1, (pages1_any b x pre W h.2).mono fun e w' ⟨h1, h2, h3⟩ => .inl ⟨h1, U, fun k hk => .inl hk, h3.mono (fun k e => (h.1 k).2 e), h.1, by rw [lastE_snoc]; exact h2⟩⟩
set_option maxRecDepth 100000 in
set_option maxHeartbeats 6400000 in
theorem cpages_any (sz : Int) (img : ByteArray) (root : Nat) (w : World) (hi : img.size ≤ 400000) (hr : root < 4294967296) :
  Calls Tryz.prog 15 #[.int .i64 sz, .string img, .int .u32 root] w fun e w' => ∃ A n c, e = .returned (.tuple #[.slice A n c, .int .i64 (treeE sz img root)]) ∧ Reads w' w'.heap.size 1 A n (ucells (((treeV sz img root).2).getD [])) ∧ Below w.heap.size w w' := by
 have hmf : ∀ (fn : Fn) (first cap : Array Value) (w : World), (Instr.makeFunc fn first cap).run Tryz.prog w = .ok (.func fn first cap) w := fun _ _ _ _ => rfl
 have HI := Lib.hid hi
 have HR := Lib.hid hr
 obtain ⟨E, hE⟩ : ∃ E, E = treeE sz img root := ⟨_, rfl⟩
 rw [← hE]
 have HEq := Lib.hid hE
 clear hi hr hE
 go_enter Tryz.func15, Tryz.ntmps15
 go_wp2_with fail
 refine (visitor_any sz img _).mono ?_
 rintro e w1 ⟨rfl, hb1, hv1, hs⟩
 have HSz := Lib.hid hs
 have HB1 := Lib.hid hb1
 clear hs hb1
 go_upto_region 3 with fail
 have hs1 := HSz.out
 have hb1 := HB1.out
 obtain ⟨w2, hw2⟩ : ∃ y, y = w1.alloc (.cells #[.int .i64 0] 28) := ⟨_, rfl⟩
 obtain ⟨b, hb⟩ : ∃ b, b = w1.heap.size := ⟨_, rfl⟩
 have hbx : Boxed w2 b 28 (.int .i64 0) := by rw [hw2, hb]; exact Boxed.new _ _ _
 have hv2 : Vis w2 (w.heap.size + 1) w.heap.size sz img [] (.slice none 0 0) := by rw [hw2]; exact hv1.below ((Below.refl _ _).alloc (Nat.le_refl _) _)
 have hb2 : Below w.heap.size w w2 := by rw [hw2]; exact hb1.alloc (by omega) _
 have HT := Lib.hid (tree_any sz img root (pages_hears b (treeS sz img root)) (w.heap.size + 1) w.heap.size HI.out HR.out _ (fun k => k = b) w2 hv2 (fun k hk hu => by rcases hk with h | h | h <;> (try simp [Value.ownBlock] at h) <;> omega) ⟨fun _ => Iff.rfl, hbx⟩)
 have HB2 := Lib.hid hb2
 have HS2 := Lib.hid (show w.heap.size + 2 ≤ b by omega)
 clear hb1 hv1 hv2 hb2 hbx
 rw [← hw2, ← hb]
 clear hw2 hb hs1 HSz HB1
 go_wp2_with fail
 refine HT.out.mono ?_
 rintro e w3 ⟨⟨v, rfl⟩, V', U', hf, hq⟩
 have hj : PagesJ b (treeS sz img root) U' w3 ∧ ∀ M, (treeV sz img root).2 = some M → Vis w3 (w.heap.size + 1) w.heap.size sz img M V' := hq.elim id (fun h => h.elim fun q h => h.2.elim)
 have HB3 := Lib.hid (show Below w.heap.size w w3 from HB2.out.trans (hf.kept.below (fun k hk => by have h2 := HS2.out; rcases hk with (h | h | h) | h <;> (try simp [Value.ownBlock] at h) <;> omega) HB2.out.size))
 have hbx := hj.1.2
 rw [lastE_tree] at hbx
 have c3 := hbx.cell
 have HVi := Lib.hid hj.2
 clear hf hq hj hbx HT HB2
 have hE := HEq.out
 rw [← hE] at c3
 by_cases h0 : E = 0
 ·have hM : ∃ M, (treeV sz img root).2 = some M := by
   unfold treeE at hE
   rcases hm : (treeV sz img root).2 with _ | M
   ·rw [hm] at hE; simp at hE; split at hE <;> omega
   ·exact ⟨M, rfl⟩
  obtain ⟨M, hM⟩ := hM
  have HV3 := Lib.hid (HVi.out M hM)
  obtain ⟨A, c, hV, _, _, _⟩ := own_form HV3.out.row
  subst hV
  have HRd := Lib.hid (Reads.of_own HV3.out.row)
  have HM := Lib.hid hM
  have c4 := HV3.out.blk.cell 3
  simp at c4
  subst h0
  clear hE hM HVi
  go_wp2_with fail
  go_ret2
  rw [HM.out]
  exact ⟨A, _, c, rfl, HRd.out, HB3.out⟩
 ·have hM : (treeV sz img root).2 = none := by
   unfold treeE at hE
   rcases hm : (treeV sz img root).2 with _ | M
   ·rfl
   ·rcases hg : goodSize sz with _ | _
    ·unfold treeV at hm; rw [hg] at hm; cases hm
    ·rw [hm, hg] at hE; simp at hE; exact absurd hE h0
  have HM := Lib.hid hM
  have h1 : (E != 0) = true := by simpa using h0
  clear hE hM HVi h0
  go_upto_region 5 with fail
  go_quiet (fail)
  go_wp2_with fail
  go_ret2
  rw [HM.out]
  exact ⟨none, 0, 0, rfl, Reads.none_, below_drewN HB3.out nq⟩
end Go.Proofs.YtmmjckokjmpfpaaGreat

namespace Go.Proofs.YtmmjckokjmpfpaaGreat
open Go.RowKit
open Go.Lib hiding intOf
attribute [local go_sem ↓] Go.wp_at_zero Go.wp_at_succ

def fewL : List Pr := [⟨⟨#[97]⟩, ⟨#[49]⟩⟩, ⟨⟨#[98]⟩, ⟨#[50]⟩⟩, ⟨⟨#[99]⟩, ⟨#[]⟩⟩]
theorem fewL_light : lightP fewL = true := by decide +kernel
theorem fewL_asc : (fewL.map (·.ky)).Pairwise lessB := by
 simp [fewL, lessB]
 decide +kernel
theorem fewL_few : FewP fewL := ⟨by decide +kernel, (lightP_parts fewL_light).2, fewL_asc⟩
theorem fewL_ok : okY fewL = true := by decide +kernel
theorem fewL_root : rootY fewL = 2 := by decide +kernel
theorem fewL_from : lessN ⟨#[98]⟩ fewL = 1 := by decide +kernel
theorem treeS_len {l : List Pr} {im : ByteArray} {r : Nat} (h1 : (treeV 128 im r).1.length ≤ 60) : (treeS 128 im r).length ≤ 20000 ∧ ∀ key, (fromS 128 im r key).length ≤ 20000 := by
 have h : (treeS 128 im r).length ≤ 61 := by
  unfold treeS stepsT
  rw [List.length_append, List.length_map]
  split
  ·simp; omega
  ·simp; omega
 refine ⟨by omega, fun key => ?_⟩
 unfold fromS
 have := List.length_filter_le (keepK key) (treeS 128 im r)
 omega
theorem prc_at {w : World} (L : List Pr) {A : Option Addr} {cs : Array Value} {g : Nat} {t : TypeId} (h : Blk w g t cs) (hc : cs.toList = prc L) : Reads w w.heap.size 2 (some ⟨g, 0, none⟩) L.length (prc L) := by
 refine ⟨by rw [prc, rowsOf_length Pr.cells_len], fun h0 => ⟨⟨g, 0, none⟩, rfl, h.lt, fun j u hu => ?_⟩⟩
 rw [show (⟨g, 0, none⟩ : Addr).add j = ⟨g, j, none⟩ by unfold Addr.add; split <;> simp_all, h.cell j, ← hu, ← hc]
 simp
set_option maxRecDepth 100000 in
set_option maxHeartbeats 6400000 in
theorem few_any (w : World) : Calls Tryz.prog 12 #[] w fun e w' => ∃ A, e = .returned (.slice A 3 3) ∧ Reads w' w'.heap.size 2 A 3 (prc fewL) ∧ Below w.heap.size w w' := by
 go_enter Tryz.func12, Tryz.ntmps12
 go_wp2_with fail
 go_ret
 exact ⟨_, rfl, prc_at fewL (A := none) (Blk.new w _ _) rfl, (Below.refl _ _).alloc (Nat.le_refl _) _⟩
theorem laid2_any (A : Option Addr) (n c : Nat) (l : List Pr) (w : World) (hr : Reads w w.heap.size 2 A n (prc l)) (hk : FewP l) :
  Calls Tryz.prog 11 #[.int .i64 128, .slice A n c] w fun e w' => Below w.heap.size w w' ∧ ((okY l = false ∧ e = .returned (.tuple #[.string ⟨#[]⟩, .int .u32 0, .bool false])) ∨ (okY l = true ∧ e = .returned (.tuple #[.string (imY l), .int .u32 (rootY l), .bool true]))) := by
 refine (laid_any A n c l w hr hk.lay).mono ?_
 rintro e w' ⟨hb, h⟩
 refine ⟨hb, h.imp (fun h => h) fun ⟨h1, h2⟩ => ⟨h1, ?_⟩⟩
 rw [h2, (told hk h1).err]
 rfl
set_option maxRecDepth 100000 in
set_option maxHeartbeats 6400000 in
theorem lives12_any (w : World) : Calls Tryz.prog 10 #[] w fun e w' => e = .returned (.bool true) ∧ Below w.heap.size w w' := by
 have hT := told fewL_few fewL_ok
 have hrt := fewL_root
 obtain ⟨im, him⟩ : ∃ x, x = imY fewL := ⟨_, rfl⟩
 obtain ⟨r, hr⟩ : ∃ x, x = rootY fewL := ⟨_, rfl⟩
 rw [← him, ← hr] at hT
 have hN := (treeS_len (l := fewL) (im := im) (r := r) (by rw [hT.tree]; decide)).2 ⟨#[98]⟩
 have HA := Lib.hid (fun w => lall1_any 128 im r ⟨#[98]⟩ w hT.size hT.root hN)
 have hf : fromP ⟨#[98]⟩ (treeV 128 im r).1 = fewL.drop 1 := by rw [hT.tree, fromP_drop _ fewL_asc, fewL_from]
 rw [hf, hT.te] at HA
 have HL := Lib.hid (fun w A (h : Reads w w.heap.size 2 A 3 (prc fewL)) => laid2_any A 3 3 fewL w h fewL_few)
 rw [← him, ← hr, fewL_ok] at HL
 clear hN hf hT him hr hrt
 have HB := Lib.hid (Below.refl w.heap.size w)
 go_enter Tryz.func10, Tryz.ntmps10
 go_wp2_with fail
 refine (few_any _).mono ?_
 rintro e w1 ⟨A1, rfl, h1, hb⟩
 replace HB := Lib.hid (HB.out.trans (hb.mono HB.out.size))
 have HR1 := Lib.hid h1
 clear hb h1
 go_wp2_with fail
 refine (HL.out _ _ HR1.out).mono ?_
 rintro e w2 ⟨hb, ⟨h, _⟩ | ⟨_, rfl⟩⟩
 ·cases h
 replace HB := Lib.hid (HB.out.trans (hb.mono HB.out.size))
 clear hb HL HR1
 go_wp2_with fail
 refine (HA.out _).mono ?_
 rintro e w3 ⟨A3, n3, c3, rfl, h3, hb⟩
 replace HB := Lib.hid (HB.out.trans (hb.mono HB.out.size))
 have HR3 := Lib.hid h3
 have hn3 : n3 = 2 := by have := pr_len h3; simp [fewL] at this; omega
 subst hn3
 clear hb h3 HA
 go_wp2_with fail
 refine (few_any _).mono ?_
 rintro e w4 ⟨A4, rfl, h4, hb⟩
 replace HB := Lib.hid (HB.out.trans (hb.mono HB.out.size))
 have HR4 := Lib.hid h4
 replace HR3 := Lib.hid (HR3.out.below hb)
 clear hb h4
 obtain ⟨X, q, hX, hXr⟩ := partP_hi A4 3 3 1 (by omega) (by omega)
 have HX := Lib.hid (show Reads w4 w4.heap.size 2 X 2 (prc (fewL.drop 1)) from hXr w4 _ _ HR4.out)
 have hX2 : ∀ w : World, (Instr.sliceAt 26 (.slice A4 3 3) (some (.int .i64 1)) none none).run Tryz.prog w = .ok (.slice X 2 q) w := hX
 clear hXr hX
 go_wp2_with fail
 refine (same12_yes A3 2 c3 X q (fewL.drop 1) _ HR3.out HX.out (by decide)).mono ?_
 rintro e w5 ⟨rfl, q5, rfl⟩
 replace HB := Lib.hid (below_drewN HB.out q5)
 clear hX2
 go_wp2_with fail
 go_ret
 exact ⟨rfl, HB.out⟩
end Go.Proofs.YtmmjckokjmpfpaaGreat

namespace Go.Proofs.YtmmjckokjmpfpaaGreat
open Go.RowKit Go.ChangeShapes Go.WideShapes
open Go.Deep (open_slice choose_lt)

instance : Inhabited Bk := ⟨⟨⟨#[]⟩, 0, 0⟩⟩
theorem lit_u32' {z : Int} (h : (Lit.int .u32 z).wf = true) : 0 ≤ z ∧ z ≤ 4294967295 := by
 simp [Lit.wf, IntKind.min, IntKind.max, IntKind.signed, IntKind.bits] at h
 omega
section
variable {H : Type} {enc : TypeId × Value → H} {w : World} {base : Nat} {spare : Nat → Bool} {held : Bool}
end
end Go.Proofs.YtmmjckokjmpfpaaGreat

namespace Go.Proofs.YtmmjckokjmpfpaaGreat
open Go.RowKit
open Go.Lib hiding intOf
attribute [local go_sem ↓] Go.wp_at_zero Go.wp_at_succ

theorem add_zero_addr (ad : Addr) : ad.add 0 = ad := by simp [Addr.add]
end Go.Proofs.YtmmjckokjmpfpaaGreat

namespace Go.Proofs.YtmmjckokjmpfpaaGreat
open Go.RowKit
open Go.Lib hiding intOf
attribute [local go_sem ↓] Go.wp_at_zero Go.wp_at_succ

theorem TreeR.alone {rd : Nat → Option Pg} {d n : Nat} {ps : List Pr} (h : TreeR rd d n ps [n]) : d = 1 := by
 cases d with
 | zero => exact h.elim
 | succ d =>
  obtain ⟨p, ms, _, h2, ⟨hd, _⟩ | ⟨F, _, h5, h6⟩⟩ := h
  ·omega
  ·injection h2 with _ h2
   subst h2
   cases F with
   | nil => exact absurd rfl h5
   | cons b F =>
    obtain ⟨p1, p2, n1, n2, _, h7, h8, _⟩ := h6
    have h9 := (List.append_eq_nil_iff.1 h7.symm).1
    subst h9
    cases d with
    | zero => exact h8.elim
    | succ d => obtain ⟨_, ms, _, h10, _⟩ := h8; cases h10
theorem node_none {s : ByteArray} {r : Nat} (hr : r ≠ 0) (h : nodeN 128 s r = .none) (key : ByteArray) : treeV 128 s r = ([], none) ∧ treeE 128 s r = 4 ∧ getV 128 s r key = (⟨#[]⟩, 4) := by
 have e0 : treeV 128 s r = ([], none) := by
  unfold treeV
  rw [show goodSize 128 = true from rfl, if_pos rfl, if_neg hr]
  simp [Go.Proofs.YtmmjckokjmpfpaaGreat.trav, h]
 have e2 : pathE 128 s r key = 4 := by
  unfold pathE pathV
  rw [show goodSize 128 = true from rfl, if_pos rfl, if_pos rfl, if_neg hr]
  simp [descT, h]
 refine ⟨e0, by unfold treeE; rw [e0]; rfl, ?_⟩
 unfold getV
 rw [e2]
 rfl
theorem root_nil (s key : ByteArray) : treeV 128 s 0 = ([], some []) ∧ treeE 128 s 0 = 0 ∧ getV 128 s 0 key = (⟨#[]⟩, 5) ∧ pathL 128 s 0 key = [] ∧ pathE 128 s 0 key = 0 := by
 have hp : pathV 128 s 0 key = some ([], []) := rfl
 refine ⟨rfl, rfl, ?_, by unfold pathL; rw [hp]; rfl, by unfold pathE; rw [hp]; rfl⟩
 unfold getV pathE pathI
 rw [hp]
 rfl
theorem size_bad {s : ByteArray} {r : Nat} {z : Int} (hz : goodSize z = false) (key : ByteArray) : treeV z s r = ([], none) ∧ treeE z s r = 2 ∧ getV z s r key = (⟨#[]⟩, 2) := by
 have e1 : pathE z s r key = 2 := by unfold pathE; rw [hz]; rfl
 refine ⟨by unfold treeV; rw [hz]; rfl, by unfold treeE; rw [hz]; rfl, ?_⟩
 unfold getV
 rw [e1]
 rfl
def loopF : List Fk := [⟨⟨#[97]⟩, 2⟩]
def loopP : Pg := ⟨3, 1, 2, 0, 1, forkBody 128 loopF⟩
theorem loop_may : mayP7 128 2 1 loopF = true := by decide +kernel
theorem loop_is : ∃ im, layStr 128 ⟨#[]⟩ [loopP] = im ∧ layErr 128 ⟨#[]⟩ [loopP] = 0 ∧ im.size = 384 ∧ treeV 128 im 2 = ([], none) ∧ treeE 128 im 2 = 4 ∧ ∀ key, pathE 128 im 2 key = 4 := by
 obtain ⟨im, C, l1, l2, l3, l4, l5, l6, l7⟩ := lay_reads (z := 128) [loopP] 0 ⟨#[]⟩ (fun p hp => by
  rw [List.mem_singleton.1 hp]
  exact may_of_7 (z := 128) loop_may) rfl
 obtain ⟨y1, y2⟩ := lay_yes (size := 128) (img := ⟨#[]⟩) (L := [loopP]) l1
 have hrd : readAt 128 im 2 = some loopP := l7 (by simp [nosP]) loopP (by simp)
 have hC : C = 3 := by
  have h1 := l4 loopP (by simp)
  have h2 := l5 3 (by omega) (fun p hp => by rw [List.mem_singleton.1 hp]; decide)
  have h3 : loopP.pg = 2 := rfl
  omega
 have hnode : nodeN 128 im 2 = .br loopF := by
  unfold nodeN
  rw [hrd]
  have h1 := readF_page (z := 128) loop_may
  have h2 : readF 3 1 2 0 1 (forkBody 128 loopF) = some loopF := h1
  show Pg.node loopP = _
  unfold Pg.node loopP
  simp only [h2]
 have hF : loopF = [⟨⟨#[97]⟩, 2⟩] := rfl
 have e0 : treeV 128 im 2 = ([], none) := by
  unfold treeV
  rw [show goodSize 128 = true from rfl, if_pos rfl, if_neg (by decide)]
  simp [Go.Proofs.YtmmjckokjmpfpaaGreat.trav, hnode, hF, forksT]
 refine ⟨im, y1, y2, by rw [l2, hC], e0, by unfold treeE; rw [e0]; rfl, fun key => ?_⟩
 have hp : pickF [(⟨⟨#[97]⟩, 2⟩ : Fk)] key = 0 := pickF_one _ _
 have hv : pathV 128 im 2 key = none := by
  unfold pathV
  rw [show goodSize 128 = true from rfl, if_pos rfl, if_neg (by decide)]
  simp [descT, hnode, hF, hp]
 unfold pathE
 rw [hv]
 rfl
theorem reads_fk1 (w : World) (t : TypeId) (a : ByteArray) (n : Nat) : Reads (w.alloc (.cells #[.string a, .int .u32 n] t)) (w.alloc (.cells #[.string a, .int .u32 n] t)).heap.size 2 (some ⟨w.heap.size, 0, none⟩) 1 (fkc [⟨a, n⟩]) := by
 have hB := Blk.new w t #[.string a, .int .u32 n]
 refine ⟨by rw [fkc, rowsOf_length Fk.cells_len]; rfl, fun _ => ⟨_, rfl, by simp, fun j u hu => ?_⟩⟩
 rw [show (⟨w.heap.size, 0, none⟩ : Addr).add j = ⟨w.heap.size, j, none⟩ by unfold Addr.add; split <;> simp_all, hB.cell j, ← hu]
 simp [fkc, rowsOf, Fk.cells]
theorem reads_row1 (w : World) (t : TypeId) (cs : Array Value) (k : Nat) (h : cs.size = k) : Reads (w.alloc (.cells cs t)) (w.alloc (.cells cs t)).heap.size k (some ⟨w.heap.size, 0, none⟩) 1 cs.toList := by
 have hB := Blk.new w t cs
 refine ⟨by simp [h], fun _ => ⟨_, rfl, by simp, fun j u hu => ?_⟩⟩
 rw [show (⟨w.heap.size, 0, none⟩ : Addr).add j = ⟨w.heap.size, j, none⟩ by unfold Addr.add; split <;> simp_all, hB.cell j, ← hu]
 simp
theorem same_two (A : Option Addr) (c : Nat) (w : World) (h : Reads w w.heap.size 1 A 1 (ucells [2])) :
  Calls Tryz.prog 20 #[.slice A 1 c, .slice (some ⟨w.heap.size, 0, none⟩) 1 1] (w.alloc (.cells #[.int .u32 2] 23)) fun e w' => e = .returned (.bool true) ∧ Below w.heap.size w w' := by
 have h2 : Reads (w.alloc (.cells #[.int .u32 2] 23)) (w.alloc (.cells #[.int .u32 2] 23)).heap.size 1 (some ⟨w.heap.size, 0, none⟩) 1 (ucells [2]) := reads_row1 w 23 #[.int .u32 2] 1 rfl
 refine (sameU_yes A 1 c (some ⟨w.heap.size, 0, none⟩) 1 [2] _ (h.alloc (Nat.le_refl _) _) h2 (by decide)).mono ?_
 rintro e w' ⟨rfl, q, rfl⟩
 exact ⟨rfl, below_drewN ((Below.refl _ _).alloc (Nat.le_refl _) _) q⟩
set_option maxRecDepth 100000 in
set_option maxHeartbeats 25600000 in
theorem cunames_walk (w : World) : Calls Tryz.prog 3 #[] w fun e w' => e = .returned (.bool true) ∧ Below w.heap.size w w' := by
 have hT := told fewL_few fewL_ok
 obtain ⟨_, d, ns, hst⟩ := stands fewL_few (by decide) fewL_ok
 have hrt := fewL_root
 have hlen : ns.length = 1 := by
  have h1 := hst.size
  have h2 : (imY fewL).size = 384 := by decide +kernel
  omega
 have hns : ns = [2] := by
  have h1 := hst.perm
  rw [hlen] at h1
  exact List.perm_singleton.1 h1
 subst hns
 obtain ⟨im, him⟩ : ∃ x, x = imY fewL := ⟨_, rfl⟩
 rw [hrt] at hT hst
 rw [← him] at hT hst
 have hd : d = 1 := hst.tree.alone
 subst hd
 have hpath : ∀ key, pathL 128 im 2 key = [2] ∧ pathE 128 im 2 key = 0 := fun key => by
  obtain ⟨k1, k2, k3, _⟩ := hst.way key
  refine ⟨?_, k1⟩
  obtain ⟨a, ha⟩ := List.length_eq_one_iff.1 k2
  rw [ha] at k3 ⊢
  simp at k3
  rw [k3]
 have hL := fun w A (h : Reads w w.heap.size 2 A 3 (prc fewL)) => laid2_any A 3 3 fewL w h fewL_few
 rw [← him, hrt, fewL_ok] at hL
 have hs := hT.size
 have G1 := fun w => cget_any 128 im 2 ⟨#[97]⟩ w hs (by decide)
 rw [hT.get ⟨⟨#[97]⟩, ⟨#[49]⟩⟩ (by simp [fewL])] at G1
 have G2 := fun w => cget_any 128 im 2 ⟨#[120]⟩ w hs (by decide)
 rw [hT.no ⟨#[120]⟩ (by simp [fewL])] at G2
 have G3 := fun w => cget_any 128 im 0 ⟨#[97]⟩ w hs (by decide)
 rw [(root_nil im ⟨#[97]⟩).2.2.1] at G3
 have G4 := fun w => cget_any 128 im 1 ⟨#[97]⟩ w hs (by decide)
 have hn1 := node_none (s := im) (r := 1) (by decide) (node_two (by decide)) ⟨#[97]⟩
 rw [hn1.2.2] at G4
 have G5 := fun w => cget_any 1 im 2 ⟨#[97]⟩ w hs (by decide)
 have hz1 := size_bad (s := im) (r := 2) (z := 1) (by decide) ⟨#[97]⟩
 rw [hz1.2.2] at G5
 have P1 := fun w => cpath_any 128 im 2 ⟨#[97]⟩ w hs (by decide)
 rw [(hpath _).1, (hpath _).2] at P1
 have P2 := fun w => cpages_any 128 im 2 w hs (by decide)
 rw [hst.trav, hst.te] at P2
 have P3 := fun w => cdepth_any 128 im 2 w hs (by decide)
 rw [(hpath _).1, (hpath _).2] at P3
 have P4 := fun w => cdepth_any 128 im 0 w hs (by decide)
 rw [(root_nil im ⟨#[]⟩).2.2.2.1, (root_nil im ⟨#[]⟩).2.2.2.2] at P4
 have A1 := fun w => lall0_any 128 im 0 ⟨#[]⟩ w hs (by decide) (treeS_len (l := fewL) (by rw [(root_nil im ⟨#[]⟩).1]; decide)).1
 rw [(root_nil im ⟨#[]⟩).1, (root_nil im ⟨#[]⟩).2.1] at A1
 have A2 := fun w => lall0_any 128 im 1 ⟨#[]⟩ w hs (by decide) (treeS_len (l := fewL) (by rw [hn1.1]; decide)).1
 rw [hn1.1, hn1.2.1] at A2
 have A3 := fun w => lall0_any 1 im 2 ⟨#[]⟩ w hs (by decide) (by rw [treeS_bad (by decide)]; decide)
 rw [hz1.1, hz1.2.1] at A3
 obtain ⟨tm, t1, t2, t3, t4, t5, t6⟩ := loop_is
 have L1 := fun w A (h : Reads w w.heap.size 2 A 1 (fkc loopF)) => rpage7_yes 128 2 1 A 1 1 loopF w h (by decide) loop_may
 have L2 := fun w A (h : Reads w w.heap.size 6 A 1 (pgcs [loopP])) => rlay11_any 128 ⟨#[]⟩ A 1 1 [loopP] w (by decide) h (by decide)
 rw [t1, t2] at L2
 have L3 := fun w => cpath_any 128 tm 2 ⟨#[97]⟩ w (by omega) (by decide)
 rw [t6] at L3
 have L4 := fun w => cpages_any 128 tm 2 w (by omega) (by decide)
 rw [t5] at L4
 obtain ⟨fb, hfb⟩ : ∃ x, x = forkBody 128 loopF := ⟨_, rfl⟩
 rw [← hfb] at L1
 have hLp : pgcs [loopP] = [.int .i64 3, .int .i64 1, .int .u32 2, .int .u32 0, .int .u64 1, .string fb] := by rw [hfb]; rfl
 rw [hLp] at L2
 dsimp only at G1 G2 G3 G4 G5 P2 A1 A2 A3
 have HL := Lib.hid hL
 have G1 := Lib.hid G1
 have G2 := Lib.hid G2
 have G3 := Lib.hid G3
 have G4 := Lib.hid G4
 have G5 := Lib.hid G5
 have P1 := Lib.hid P1
 have P2 := Lib.hid P2
 have P3 := Lib.hid P3
 have P4 := Lib.hid P4
 have A1 := Lib.hid A1
 have A2 := Lib.hid A2
 have A3 := Lib.hid A3
 have L1 := Lib.hid L1
 have L2 := Lib.hid L2
 have L3 := Lib.hid L3
 have L4 := Lib.hid L4
 clear hT hst hrt hlen him hpath hL hs hn1 hz1 t1 t2 t3 t4 t5 t6 hfb hLp
 have HB := Lib.hid (Below.refl w.heap.size w)
 obtain ⟨hzp, hip⟩ := zero_of_info infoPg
 have HIP := Lib.hid hip
 clear hip
 go_enter Tryz.func3, Tryz.ntmps3
 go_wp2_with fail
 refine (lives12_any _).mono ?_
 rintro e w1 ⟨rfl, hb⟩
 replace HB := Lib.hid (HB.out.trans (hb.mono HB.out.size))
 clear hb
 go_wp2_with fail
 refine (few_any _).mono ?_
 rintro e w2 ⟨Af, rfl, h1, hb⟩
 replace HB := Lib.hid (HB.out.trans (hb.mono HB.out.size))
 have HR1 := Lib.hid h1
 clear hb h1
 go_wp2_with fail
 refine (HL.out _ _ HR1.out).mono ?_
 rintro e w3 ⟨hb, ⟨h, _⟩ | ⟨_, rfl⟩⟩
 ·cases h
 replace HB := Lib.hid (HB.out.trans (hb.mono HB.out.size))
 clear hb HL HR1
 go_wp2_with fail
 refine (G1.out _).mono ?_
 rintro e w4 ⟨rfl, hb⟩
 replace HB := Lib.hid (HB.out.trans (hb.mono HB.out.size))
 clear hb G1
 go_wp2_with fail
 refine (G2.out _).mono ?_
 rintro e w5 ⟨rfl, hb⟩
 replace HB := Lib.hid (HB.out.trans (hb.mono HB.out.size))
 clear hb G2
 go_wp2_with fail
 refine (G3.out _).mono ?_
 rintro e w6 ⟨rfl, hb⟩
 replace HB := Lib.hid (HB.out.trans (hb.mono HB.out.size))
 clear hb G3
 go_wp2_with fail
 refine (G4.out _).mono ?_
 rintro e w7 ⟨rfl, hb⟩
 replace HB := Lib.hid (HB.out.trans (hb.mono HB.out.size))
 clear hb G4
 go_wp2_with fail
 refine (G5.out _).mono ?_
 rintro e w8 ⟨rfl, hb⟩
 replace HB := Lib.hid (HB.out.trans (hb.mono HB.out.size))
 clear hb G5
 go_wp2_with fail
 refine (P1.out _).mono ?_
 rintro e w9 ⟨Ab, nb, cb, rfl, h1, _, _, hb⟩
 obtain rfl : nb = 1 := by have := ulen h1; simpa using this.symm
 have HRb := Lib.hid h1
 replace HB := Lib.hid (HB.out.trans (hb.mono HB.out.size))
 clear hb h1 P1
 go_wp2_with fail
 refine (P2.out _).mono ?_
 rintro e w10 ⟨Ac, nc, cc, rfl, h1, hb⟩
 obtain rfl : nc = 1 := by have := ulen h1; simpa using this.symm
 have HRc := Lib.hid (show Reads w10 w10.heap.size 1 Ac 1 (ucells [2]) from h1)
 replace HB := Lib.hid (HB.out.trans (hb.mono HB.out.size))
 replace HRb := Lib.hid ((HRb.out.below hb).more hb.size)
 clear hb h1 P2
 go_wp2_with fail
 refine (P3.out _).mono ?_
 rintro e w11 ⟨rfl, hb⟩
 replace HB := Lib.hid (HB.out.trans (hb.mono HB.out.size))
 replace HRb := Lib.hid ((HRb.out.below hb).more hb.size)
 replace HRc := Lib.hid ((HRc.out.below hb).more hb.size)
 clear hb P3
 go_wp2_with fail
 refine (P4.out _).mono ?_
 rintro e w12 ⟨rfl, hb⟩
 replace HB := Lib.hid (HB.out.trans (hb.mono HB.out.size))
 replace HRb := Lib.hid ((HRb.out.below hb).more hb.size)
 replace HRc := Lib.hid ((HRc.out.below hb).more hb.size)
 clear hb P4
 go_wp2_with fail
 refine (A1.out _).mono ?_
 rintro e w13 ⟨Aa, na, ca, rfl, h1, hb⟩
 obtain rfl : na = 0 := by have := pr_len h1; simpa using this.symm
 replace HB := Lib.hid (HB.out.trans (hb.mono HB.out.size))
 replace HRb := Lib.hid ((HRb.out.below hb).more hb.size)
 replace HRc := Lib.hid ((HRc.out.below hb).more hb.size)
 clear hb h1 A1
 go_wp2_with fail
 refine (A2.out _).mono ?_
 rintro e w14 ⟨Ad, nd, cd, rfl, h1, hb⟩
 obtain rfl : nd = 0 := by have := pr_len h1; simpa using this.symm
 replace HB := Lib.hid (HB.out.trans (hb.mono HB.out.size))
 replace HRb := Lib.hid ((HRb.out.below hb).more hb.size)
 replace HRc := Lib.hid ((HRc.out.below hb).more hb.size)
 clear hb h1 A2
 go_wp2_with fail
 refine (A3.out _).mono ?_
 rintro e w15 ⟨Ae, ne, ce, rfl, h1, hb⟩
 obtain rfl : ne = 0 := by have := pr_len h1; simpa using this.symm
 replace HB := Lib.hid (HB.out.trans (hb.mono HB.out.size))
 replace HRb := Lib.hid ((HRb.out.below hb).more hb.size)
 replace HRc := Lib.hid ((HRc.out.below hb).more hb.size)
 clear hb h1 A3
 go_wp2_with fail
 refine (L1.out _ _ (reads_fk1 w15 _ _ _)).mono ?_
 rintro e w16 ⟨rfl, hb⟩
 replace HB := Lib.hid ((HB.out.alloc HB.out.size _).trans (hb.mono (by simp; have := HB.out.size; omega)))
 replace HRb := Lib.hid (((HRb.out.alloc (Nat.le_refl _) _).more (by simp) |>.below hb).more hb.size)
 replace HRc := Lib.hid (((HRc.out.alloc (Nat.le_refl _) _).more (by simp) |>.below hb).more hb.size)
 clear hb L1
 go_upto_region 17 with fail
 obtain ⟨wA, hwA⟩ : ∃ y, y = w16.alloc (.cells #[.int .i64 3, .int .i64 1, .int .u32 2, .int .u32 0, .int .u64 1, .string fb] 41) := ⟨_, rfl⟩
 have PB := Lib.hid (show Blk wA w16.heap.size 41 #[.int .i64 3, .int .i64 1, .int .u32 2, .int .u32 0, .int .u64 1, .string fb] by rw [hwA]; exact Blk.new _ _ _)
 replace HB := Lib.hid (show Below w.heap.size w wA by rw [hwA]; exact HB.out.alloc HB.out.size _)
 replace HRb := Lib.hid (show Reads wA wA.heap.size 1 Ab 1 (ucells [2]) by rw [hwA]; exact (HRb.out.alloc (Nat.le_refl _) _).more (by simp))
 replace HRc := Lib.hid (show Reads wA wA.heap.size 1 Ac 1 (ucells [2]) by rw [hwA]; exact (HRc.out.alloc (Nat.le_refl _) _).more (by simp))
 obtain ⟨gP, hgP⟩ : ∃ y, y = w16.heap.size := ⟨_, rfl⟩
 rw [← hwA, ← hgP]
 rw [← hgP] at PB
 clear hwA hgP
 have p0 := PB.out.cell 0
 have p1 := PB.out.cell 1
 have p2 := PB.out.cell 2
 have p3 := PB.out.cell 3
 have p4 := PB.out.cell 4
 have p5 := PB.out.cell 5
 simp at p0 p1 p2 p3 p4 p5
 go_wp2_with fail
 refine (L2.out _ _ (reads_row1 wA 41 #[.int .i64 3, .int .i64 1, .int .u32 2, .int .u32 0, .int .u64 1, .string fb] 6 rfl)).mono ?_
 rintro e w17 ⟨rfl, hb⟩
 replace HB := Lib.hid ((HB.out.alloc HB.out.size _).trans (hb.mono (by simp; have := HB.out.size; omega)))
 replace HRb := Lib.hid (((HRb.out.alloc (Nat.le_refl _) _).more (by simp) |>.below hb).more hb.size)
 replace HRc := Lib.hid (((HRc.out.alloc (Nat.le_refl _) _).more (by simp) |>.below hb).more hb.size)
 clear hb L2 p0 p1 p2 p3 p4 p5 PB
 go_wp2_with fail
 refine (L3.out _).mono ?_
 rintro e w18 ⟨Ag, ng, cg, rfl, _, _, _, hb⟩
 replace HB := Lib.hid (HB.out.trans (hb.mono HB.out.size))
 replace HRb := Lib.hid ((HRb.out.below hb).more hb.size)
 replace HRc := Lib.hid ((HRc.out.below hb).more hb.size)
 clear hb L3
 go_wp2_with fail
 refine (L4.out _).mono ?_
 rintro e w19 ⟨Ah, nh, ch, rfl, _, hb⟩
 replace HB := Lib.hid (HB.out.trans (hb.mono HB.out.size))
 replace HRb := Lib.hid ((HRb.out.below hb).more hb.size)
 replace HRc := Lib.hid ((HRc.out.below hb).more hb.size)
 clear hb L4
 go_wp2_with fail
 refine (same_two Ab cb w19 HRb.out).mono ?_
 rintro e w20 ⟨rfl, hb⟩
 replace HB := Lib.hid (HB.out.trans (hb.mono HB.out.size))
 replace HRc := Lib.hid ((HRc.out.below hb).more hb.size)
 clear hb HRb
 go_wp2_with fail
 refine (same_two Ac cc w20 HRc.out).mono ?_
 rintro e w21 ⟨rfl, hb⟩
 replace HB := Lib.hid (HB.out.trans (hb.mono HB.out.size))
 clear hb HRc
 go_wp2_with fail
 go_ret
 exact ⟨rfl, HB.out⟩
end Go.Proofs.YtmmjckokjmpfpaaGreat

