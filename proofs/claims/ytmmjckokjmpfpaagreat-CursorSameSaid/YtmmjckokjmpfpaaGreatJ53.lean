/-
  Texts that the main proof rests on, put together: CuLaw, BkOpen, PrOpen, CuSame. No statement is proved here.
-/
import Derived.Test.YtmmjckokjmpfpaaGreatJ51
import Derived.Test.YtmmjckokjmpfpaaGreatJ42
import Derived.Test.YtmmjckokjmpfpaaGreatJ52
import Derived.Test.YtmmjckokjmpfpaaGreatJ50
import Derived.Test.YtmmjckokjmpfpaaGreatJ10
import Derived.Deep.Slices
import Derived.ChangeSame
import Derived.SizedLaws
import Derived.Test.YtmmjckokjmpfpaaGreatJ41
import Derived.Deep.CutRange
import Derived.Test.YtmmjckokjmpfpaaGreatJ43
import Derived.Test.YtmmjckokjmpfpaaGreatJ3
import Derived.Test.YtmmjckokjmpfpaaGreatJ15
set_option linter.unusedVariables false
set_option linter.unusedSimpArgs false
namespace Go.Proofs.YtmmjckokjmpfpaaGreat
open Go.RowKit
open Go.Lib hiding intOf
attribute [local go_sem ↓] Go.wp_at_zero Go.wp_at_succ

def fewL : List Pr := [⟨⟨#[97]⟩, ⟨#[49]⟩⟩, ⟨⟨#[98]⟩, ⟨#[50]⟩⟩, ⟨⟨#[99]⟩, ⟨#[]⟩⟩]
theorem fewL_light : lightP fewL = true := by decide +kernel
theorem fewL_asc : (fewL.map (·.ky)).Pairwise lessB := by
 simp [fewL, lessB]
 decide +kernel
theorem fewL_few : FewP fewL := ⟨by decide +kernel, (lightP_parts fewL_light).2, fewL_asc⟩
theorem fewL_ok : okY fewL = true := by decide +kernel
theorem fewL_root : rootY fewL = 2 := by decide +kernel
theorem fewL_from : lessN ⟨#[98]⟩ fewL = 1 := by decide +kernel
theorem treeS_len {l : List Pr} {im : ByteArray} {r : Nat} (h1 : (treeV 128 im r).1.length ≤ 60) : (treeS 128 im r).length ≤ 20000 ∧ ∀ key, (fromS 128 im r key).length ≤ 20000 := by
 have h : (treeS 128 im r).length ≤ 61 := by
  unfold treeS stepsT
  rw [List.length_append, List.length_map]
  split
  ·simp; omega
  ·simp; omega
 refine ⟨by omega, fun key => ?_⟩
 unfold fromS
 have := List.length_filter_le (keepK key) (treeS 128 im r)
 omega
theorem prc_at {w : World} (L : List Pr) {A : Option Addr} {cs : Array Value} {g : Nat} {t : TypeId} (h : Blk w g t cs) (hc : cs.toList = prc L) : Reads w w.heap.size 2 (some ⟨g, 0, none⟩) L.length (prc L) := by
 refine ⟨by rw [prc, rowsOf_length Pr.cells_len], fun h0 => ⟨⟨g, 0, none⟩, rfl, h.lt, fun j u hu => ?_⟩⟩
 rw [show (⟨g, 0, none⟩ : Addr).add j = ⟨g, j, none⟩ by unfold Addr.add; split <;> simp_all, h.cell j, ← hu, ← hc]
 simp
set_option maxRecDepth 100000 in
set_option maxHeartbeats 6400000 in
theorem few_any (w : World) : Calls Tryz.prog 12 #[] w fun e w' => ∃ A, e = .returned (.slice A 3 3) ∧ Reads w' w'.heap.size 2 A 3 (prc fewL) ∧ Below w.heap.size w w' := by
 go_enter Tryz.func12, Tryz.ntmps12
 go_wp2_with fail
 go_ret
 exact ⟨_, rfl, prc_at fewL (A := none) (Blk.new w _ _) rfl, (Below.refl _ _).alloc (Nat.le_refl _) _⟩
theorem laid2_any (A : Option Addr) (n c : Nat) (l : List Pr) (w : World) (hr : Reads w w.heap.size 2 A n (prc l)) (hk : FewP l) :
  Calls Tryz.prog 11 #[.int .i64 128, .slice A n c] w fun e w' => Below w.heap.size w w' ∧ ((okY l = false ∧ e = .returned (.tuple #[.string ⟨#[]⟩, .int .u32 0, .bool false])) ∨ (okY l = true ∧ e = .returned (.tuple #[.string (imY l), .int .u32 (rootY l), .bool true]))) := by
 refine (laid_any A n c l w hr hk.lay).mono ?_
 rintro e w' ⟨hb, h⟩
 refine ⟨hb, h.imp (fun h => h) fun ⟨h1, h2⟩ => ⟨h1, ?_⟩⟩
 rw [h2, (told hk h1).err]
 rfl
set_option maxRecDepth 100000 in
set_option maxHeartbeats 6400000 in
theorem lives12_any (w : World) : Calls Tryz.prog 10 #[] w fun e w' => e = .returned (.bool true) ∧ Below w.heap.size w w' := by
 have hT := told fewL_few fewL_ok
 have hrt := fewL_root
 obtain ⟨im, him⟩ : ∃ x, x = imY fewL := ⟨_, rfl⟩
 obtain ⟨r, hr⟩ : ∃ x, x = rootY fewL := ⟨_, rfl⟩
 rw [← him, ← hr] at hT
 have hN := (treeS_len (l := fewL) (im := im) (r := r) (by rw [hT.tree]; decide)).2 ⟨#[98]⟩
 have HA := Lib.hid (fun w => lall1_any 128 im r ⟨#[98]⟩ w hT.size hT.root hN)
 have hf : fromP ⟨#[98]⟩ (treeV 128 im r).1 = fewL.drop 1 := by rw [hT.tree, fromP_drop _ fewL_asc, fewL_from]
 rw [hf, hT.te] at HA
 have HL := Lib.hid (fun w A (h : Reads w w.heap.size 2 A 3 (prc fewL)) => laid2_any A 3 3 fewL w h fewL_few)
 rw [← him, ← hr, fewL_ok] at HL
 clear hN hf hT him hr hrt
 have HB := Lib.hid (Below.refl w.heap.size w)
 go_enter Tryz.func10, Tryz.ntmps10
 go_wp2_with fail
 refine (few_any _).mono ?_
 rintro e w1 ⟨A1, rfl, h1, hb⟩
 replace HB := Lib.hid (HB.out.trans (hb.mono HB.out.size))
 have HR1 := Lib.hid h1
 clear hb h1
 go_wp2_with fail
 refine (HL.out _ _ HR1.out).mono ?_
 rintro e w2 ⟨hb, ⟨h, _⟩ | ⟨_, rfl⟩⟩
 ·cases h
 replace HB := Lib.hid (HB.out.trans (hb.mono HB.out.size))
 clear hb HL HR1
 go_wp2_with fail
 refine (HA.out _).mono ?_
 rintro e w3 ⟨A3, n3, c3, rfl, h3, hb⟩
 replace HB := Lib.hid (HB.out.trans (hb.mono HB.out.size))
 have HR3 := Lib.hid h3
 have hn3 : n3 = 2 := by have := pr_len h3; simp [fewL] at this; omega
 subst hn3
 clear hb h3 HA
 go_wp2_with fail
 refine (few_any _).mono ?_
 rintro e w4 ⟨A4, rfl, h4, hb⟩
 replace HB := Lib.hid (HB.out.trans (hb.mono HB.out.size))
 have HR4 := Lib.hid h4
 replace HR3 := Lib.hid (HR3.out.below hb)
 clear hb h4
 obtain ⟨X, q, hX, hXr⟩ := partP_hi A4 3 3 1 (by omega) (by omega)
 have HX := Lib.hid (show Reads w4 w4.heap.size 2 X 2 (prc (fewL.drop 1)) from hXr w4 _ _ HR4.out)
 have hX2 : ∀ w : World, (Instr.sliceAt 26 (.slice A4 3 3) (some (.int .i64 1)) none none).run Tryz.prog w = .ok (.slice X 2 q) w := hX
 clear hXr hX
 go_wp2_with fail
 refine (same12_yes A3 2 c3 X q (fewL.drop 1) _ HR3.out HX.out (by decide)).mono ?_
 rintro e w5 ⟨rfl, q5, rfl⟩
 replace HB := Lib.hid (below_drewN HB.out q5)
 clear hX2
 go_wp2_with fail
 go_ret
 exact ⟨rfl, HB.out⟩
end Go.Proofs.YtmmjckokjmpfpaaGreat

namespace Go.Proofs.YtmmjckokjmpfpaaGreat
open Go.RowKit Go.ChangeShapes Go.WideShapes
open Go.Deep (open_slice choose_lt)

instance : Inhabited Bk := ⟨⟨⟨#[]⟩, 0, 0⟩⟩
theorem lit_u32' {z : Int} (h : (Lit.int .u32 z).wf = true) : 0 ≤ z ∧ z ≤ 4294967295 := by
 simp [Lit.wf, IntKind.min, IntKind.max, IntKind.signed, IntKind.bits] at h
 omega
section
variable {H : Type} {enc : TypeId × Value → H} {w : World} {base : Nat} {spare : Nat → Bool} {held : Bool}
end
end Go.Proofs.YtmmjckokjmpfpaaGreat

namespace Go.Proofs.YtmmjckokjmpfpaaGreat
open Go.RowKit Go.ChangeShapes Go.WideShapes
open Go.Deep (open_slice choose_lt)

instance : Inhabited Pr := ⟨⟨⟨#[]⟩, ⟨#[]⟩⟩⟩
def Prs (w : World) (B : Nat) (A : Option Addr) (n c : Nat) (l : List Pr) : Prop := Reads w B 2 A n (prc l) ∧ n ≤ c ∧ c ≤ maxLen ∧ n ≤ 4398046511104 ∧ ∀ b, b ∈ l → b.ky.size ≤ 140737488351232 ∧ b.vl.size ≤ 140737488351232
theorem Prs.near {w : World} {B : Nat} {A : Option Addr} {n c : Nat} {l : List Pr} (h : Prs w B A n c l) : NearP l := h.2.2.2.2
section
variable {H : Type} {enc : TypeId × Value → H} {w : World} {base : Nat} {spare : Nat → Bool} {held : Bool}
theorem prs_weights {e : TypeId} {m : Nat} : ∀ {l : List (DataW H)} {d : DataW H}, d ∈ l → m ∈ d.weights Tryz.prog e → m ∈ DataW.weightsAll Tryz.prog e l
 | d0 :: l, d, hd, hm => by
  simp only [DataW.weightsAll, List.mem_append]
  rcases List.mem_cons.1 hd with rfl | hd
  ·exact .inl hm
  ·exact .inr (prs_weights hd hm)
set_option maxRecDepth 100000 in
theorem open_prw {fuel : Nat} {cs : Array Value} {x : DataW H × List MemPlace} (h : DataW.trod enc Tryz.prog w base spare held fuel 55 cs.toList = some x) (hz : cs.size = 2) :
  ∃ b : Pr, cs = b.cells.toArray ∧ b.ky.size ∈ x.1.weights Tryz.prog 55 ∧ b.vl.size ∈ x.1.weights Tryz.prog 55 := by
 obtain ⟨cl, hcl⟩ : ∃ cl, cl = cs.toList := ⟨_, rfl⟩
 have hlen : cl.length = 2 := by rw [hcl, Array.length_toList]; exact hz
 have hce : cs = cl.toArray := by rw [hcl]
 rw [← hcl] at h
 obtain ⟨xs, k', hk, hxy, _, hxl, hf⟩ := DataW.trod_struct Tryz.underlying55 h
 match xs, hxl, cl, hlen with
 | [y0, y1], _, [v0, v1], _ =>
  have g0 := hf 0 _ rfl
  have g1 := hf 1 _ rfl
  have hone : Tryz.prog.cellsOf 9 = 1 := by kernel_rfl
  simp [hone] at g0 g1
  obtain ⟨s0, hv0, hd0, hs0⟩ := DataW.trod_string Tryz.underlying9 g0
  obtain ⟨s1, hv1, hd1, hs1⟩ := DataW.trod_string Tryz.underlying9 g1
  simp at hv0 hv1
  subst hv0 hv1
  refine ⟨⟨s0, s1⟩, by rw [hce]; rfl, ?_, ?_⟩
  ·have hx1 : x.1 = .agg [y0.1, y1.1] := by rw [hxy]; rfl
   rw [hx1]
   simp only [DataW.weights, Tryz.underlying55]
   refine DataW.weights_mem_each (j := 0) rfl rfl _ ?_
   rw [hd0]
   simp [DataW.weights]
  ·have hx1 : x.1 = .agg [y0.1, y1.1] := by rw [hxy]; rfl
   rw [hx1]
   simp only [DataW.weights, Tryz.underlying55]
   refine DataW.weights_mem_each (j := 1) rfl rfl _ ?_
   rw [hd1]
   simp [DataW.weights]
theorem open_prs {fuel : Nat} {A : Option Addr} {n c : Nat} {x : DataW H × List MemPlace} (h : DataW.trod enc Tryz.prog w base (fun _ => true) held fuel 26 [.slice A n c] = some x) (hw : ∀ m ∈ x.1.weights Tryz.prog 26, m ≤ reachBytes) :
  ∃ l, Prs w w.heap.size A n c l := by
 rcases open_slice Tryz.underlying26 h with ⟨hv, _⟩ | ⟨a, len, cap, m, k, D, Pl, hv, hb, hl, hm, hmm, hx, hi⟩
 ·simp at hv
  obtain ⟨rfl, rfl, rfl⟩ := hv
  exact ⟨[], Reads.none_, Nat.le_refl _, by simp [maxLen], by omega, by simp⟩
 simp at hv
 obtain ⟨rfl, rfl, rfl⟩ := hv
 have hmm : m = c := by simpa using hmm
 subst hmm
 have hce : Tryz.prog.cellsOf 55 = 2 := by kernel_rfl
 have hby : Tryz.prog.bytesOf 55 = 32 := by kernel_rfl
 have hn : n ≤ 4398046511104 := by
  have := hw (((List.range n).map D).length * 32 + ((List.range (m - n)).map fun j => D (n + j)).length * 32) (by
   rw [hx]
   simp [DataW.weights, Tryz.underlying26, hby, Nat.add_mul])
  rw [List.length_map, List.length_range] at this
  unfold reachBytes at this
  omega
 have each : ∀ i, i < n → ∃ q : Pr, (∀ j u, q.cells[j]? = some u → w.cell? ((a.add (i * 2)).add j) = some u) ∧ (q.ky.size ≤ 140737488351232 ∧ q.vl.size ≤ 140737488351232) ∧ a.block < w.heap.size := by
  intro i hin
  obtain ⟨cs', h1, h2⟩ := hi i (by omega)
  rw [hce] at h1
  obtain ⟨_, hlen, hcell⟩ := World.cells?_some h1
  obtain ⟨b, e, hwt, hwt2⟩ := open_prw (cs := cs'.toArray) (by simpa using h2) (by simpa using hlen)
  have e' : cs' = b.cells := by
   have := congrArg Array.toList e
   simpa using this
  have hin2 : ∀ m, m ∈ (D i).weights Tryz.prog 55 → m ≤ reachBytes := fun m hm => hw _ (by
   rw [hx]
   simp only [DataW.weights, Tryz.underlying26, List.mem_cons, List.mem_append]
   exact .inr (.inl (prs_weights (d := D i) (List.mem_map.2 ⟨i, List.mem_range.2 hin, rfl⟩) hm)))
  have hnm := hin2 _ hwt
  have hnm2 := hin2 _ hwt2
  unfold reachBytes at hnm hnm2
  refine ⟨b, fun j u hu => ?_, ⟨hnm, hnm2⟩, ?_⟩
  ·have hj : j < 2 := by
    have := (List.getElem?_eq_some_iff.1 hu).1
    rwa [Pr.cells_len] at this
   rw [hcell j hj, e']
   exact hu
  ·have h0 := hcell 0 (by omega)
   rw [e'] at h0
   have := World.block_lt_of_cell? w _ h0
   simpa [block_add] using this
 obtain ⟨q, hq⟩ := choose_lt each
 have hlq : ((List.range n).map q).length = n := by simp
 refine ⟨(List.range n).map q, ⟨by rw [prc, rowsOf_length Pr.cells_len, hlq], fun h0 => ⟨a, rfl, (hq 0 (by omega)).2.2, fun j u hu => ?_⟩⟩, hl, hm, hn, fun b hb' => ?_⟩
 ·have hj : j < n * 2 := by
   have h1 := (List.getElem?_eq_some_iff.1 hu).1
   rw [prc, rowsOf_length Pr.cells_len, hlq] at h1
   exact h1
  have hd : j / 2 < n := by omega
  have hg := rowsOf_get Pr.cells_len ((List.range n).map q) (j / 2) (j % 2) (q (j / 2)) (by simp [hd]) (by omega)
  rw [show j / 2 * 2 + j % 2 = j by omega] at hg
  have hu' : (q (j / 2)).cells[j % 2]? = some u := by rw [← hg]; exact hu
  have := (hq (j / 2) hd).1 (j % 2) u hu'
  rw [add_add, show j / 2 * 2 + j % 2 = j by omega] at this
  exact this
 ·obtain ⟨i, hi', rfl⟩ := List.mem_map.1 hb'
  exact (hq i (List.mem_range.1 hi')).2.1
end
end Go.Proofs.YtmmjckokjmpfpaaGreat

namespace Go.Proofs.YtmmjckokjmpfpaaGreat
open Go.RowKit
open Go.Lib hiding intOf
attribute [local go_sem ↓] Go.wp_at_zero Go.wp_at_succ

theorem readAt_same {im M : ByteArray} {c e n : Nat} (hl : im.size = c * 128) (hs : M.size = c * 128 + e) (hn : n < c) (hb : blkOf 128 M n = blkOf 128 im n) : readAt 128 M n = readAt 128 im n := by
 unfold readAt
 rw [show (128 : Int).toNat = 128 from rfl, hb, hs, hl, show (c * 128 + e) / 128 = c + e / 128 by omega, Nat.mul_div_cancel _ (by decide), decide_eq_true (show n < c + e / 128 by omega), decide_eq_true hn]
set_option maxRecDepth 10000 in
theorem readAt_more {im a rest : ByteArray} {c : Nat} (hl : im.size = c * 128) (ha : a.size = 256) (hc : 2 ≤ c) (n : Nat) (h2 : 2 ≤ n) (hn : n < c) :
  readAt 128 (a ++ im.extract 256 im.size ++ rest) n = readAt 128 im n := by
 refine readAt_same hl (e := rest.size) (by rw [ByteArray.size_append, ByteArray.size_append, ByteArray.size_extract, ha]; omega) hn ?_
 have h1 : n * 128 + 128 ≤ c * 128 := by omega
 have hal : a.data.toList.length = 256 := by rw [size_list, ha]
 have hil : im.data.toList.length = c * 128 := by rw [size_list, hl]
 have hz : im.size = im.data.toList.length := (size_list im).symm
 apply bytes_ext
 rw [blkOf_list, blkOf_list]
 unfold pieceL
 rw [ByteArray.data_append, Array.toList_append, ByteArray.data_append, Array.toList_append, ext_list11, hz]
 generalize im.data.toList = I at *
 generalize a.data.toList = X at *
 rw [List.append_assoc, List.drop_append, List.drop_of_length_le (l := X) (by omega), List.nil_append, hal]
 rw [List.take_of_length_le (l := I.drop 256) (by rw [List.length_drop]; exact Nat.le_refl _), List.drop_append_of_le_length (by rw [List.length_drop]; omega), List.take_append_of_le_length (by rw [List.length_drop, List.length_drop]; omega), List.drop_drop]
 congr 2
 omega
theorem size_cut {im : ByteArray} {r k : Nat} (hk : k < 128) (h : r * 128 + 128 ≤ im.size) : readAt 128 (im.extract 0 (r * 128 + k)) r = none := by
 have hs : (im.extract 0 (r * 128 + k)).size = r * 128 + k := by rw [ByteArray.size_extract]; omega
 unfold readAt
 rw [hs, show (128 : Int).toNat = 128 from rfl, decide_eq_false (show ¬ r < (r * 128 + k) / 128 by omega)]
 simp
set_option maxRecDepth 100000 in
set_option maxHeartbeats 25600000 in
theorem cusame_walk (A : Option Addr) (n c : Nat) (l : List Pr) (key rest : ByteArray) (w : World) (hl : Prs w w.heap.size A n c l) (_hk : key.size ≤ maxLen) (_hr : rest.size ≤ maxLen) :
  Calls Tryz.prog 8 #[.slice A n c, .string key, .string rest] w fun e w' => e = .returned (.bool true) ∧ Below w.heap.size w w' := by
 have HR := Lib.hid hl.1
 have HX := Lib.hid hl.near
 have HN := Lib.hid hl.2.2.2.1
 have HLn := Lib.hid (pr_len hl.1)
 clear hl
 clear _hk _hr
 have HB := Lib.hid (Below.refl w.heap.size w)
 rcases hlp : lightP l with _ | _
 ·skip
  go_enter Tryz.func8, Tryz.ntmps8
  go_wp2_with fail
  refine (lives12_any _).mono ?_
  rintro e w1 ⟨rfl, hb⟩
  replace HB := Lib.hid (HB.out.trans (hb.mono HB.out.size))
  replace HR := Lib.hid (HR.out.below hb)
  have HS1 := Lib.hid hb.size
  clear hb
  go_wp2_with fail
  refine (lightP_any A n c l _ HR.out (Nat.le_trans HN.out (by decide)) HX.out).mono ?_
  rintro e w2 ⟨rfl, q, rfl⟩
  replace HB := Lib.hid (below_drewN HB.out q)
  rw [hlp]
  go_wp2_with fail
  go_ret
  exact ⟨rfl, HB.out⟩
 have HLp := Lib.hid hlp
 obtain ⟨h60, hsm⟩ := lightP_parts hlp
 have HF := Lib.hid (FewP.of_sort h60 hsm)
 have H60 := Lib.hid h60
 clear hlp h60 hsm
 by_cases hk : 100 < key.size
 ·have g1key : decide ((100 : Int) < (key.size : Int)) = true := by simp; omega
  have g2key : decide (100 < key.size) = true := by simp; omega
  clear hk
  go_enter Tryz.func8, Tryz.ntmps8
  go_wp2_with fail
  refine (lives12_any _).mono ?_
  rintro e w1 ⟨rfl, hb⟩
  replace HB := Lib.hid (HB.out.trans (hb.mono HB.out.size))
  replace HR := Lib.hid (HR.out.below hb)
  have HS1 := Lib.hid hb.size
  clear hb
  go_wp2_with fail
  refine (lightP_any A n c l _ HR.out (Nat.le_trans HN.out (by decide)) HX.out).mono ?_
  rintro e w2 ⟨rfl, q, rfl⟩
  replace HB := Lib.hid (below_drewN HB.out q)
  rw [HLp.out]
  go_wp2_with fail
  go_ret
  exact ⟨rfl, HB.out⟩
 have g1key : decide ((100 : Int) < (key.size : Int)) = false := by simp; omega
 have g2key : decide (100 < key.size) = false := by simp; omega
 have HSkey := Lib.hid (show key.size ≤ 100 by omega)
 clear hk
 by_cases hk : 600 < rest.size
 ·have g1rest : decide ((600 : Int) < (rest.size : Int)) = true := by simp; omega
  have g2rest : decide (600 < rest.size) = true := by simp; omega
  clear hk
  go_enter Tryz.func8, Tryz.ntmps8
  go_wp2_with fail
  refine (lives12_any _).mono ?_
  rintro e w1 ⟨rfl, hb⟩
  replace HB := Lib.hid (HB.out.trans (hb.mono HB.out.size))
  replace HR := Lib.hid (HR.out.below hb)
  have HS1 := Lib.hid hb.size
  clear hb
  go_wp2_with fail
  refine (lightP_any A n c l _ HR.out (Nat.le_trans HN.out (by decide)) HX.out).mono ?_
  rintro e w2 ⟨rfl, q, rfl⟩
  replace HB := Lib.hid (below_drewN HB.out q)
  rw [HLp.out]
  go_wp2_with fail
  go_ret
  exact ⟨rfl, HB.out⟩
 have g1rest : decide ((600 : Int) < (rest.size : Int)) = false := by simp; omega
 have g2rest : decide (600 < rest.size) = false := by simp; omega
 have HSrest := Lib.hid (show rest.size ≤ 600 by omega)
 clear hk
 go_enter Tryz.func8, Tryz.ntmps8
 go_wp2_with fail
 refine (lives12_any _).mono ?_
 rintro e w1 ⟨rfl, hb⟩
 replace HB := Lib.hid (HB.out.trans (hb.mono HB.out.size))
 replace HR := Lib.hid (HR.out.below hb)
 have HS1 := Lib.hid hb.size
 clear hb
 go_wp2_with fail
 refine (lightP_any A n c l _ HR.out (Nat.le_trans HN.out (by decide)) HX.out).mono ?_
 rintro e w2 ⟨rfl, q, rfl⟩
 replace HB := Lib.hid (below_drewN HB.out q)
 replace HR := Lib.hid (show Reads (w1.drewN q) (w1.drewN q).heap.size 2 A n (prc l) from (HR.out.drewN q).more HS1.out)
 clear HS1
 rw [HLp.out]
 go_wp2_with fail
 refine (sorted_any A n c l _ HR.out (by have := HLn.out; have := H60.out; omega)).mono ?_
 rintro e w3 ⟨A3, n3, c3, rfl, hown, hb⟩
 obtain ⟨_, _, hv, hnc, hcm, _⟩ := own_form hown
 cases hv
 replace HB := Lib.hid (HB.out.trans (hb.mono HB.out.size))
 have HR3 := Lib.hid (Reads.of_own hown)
 clear hb hown HR HLp HX HN HLn H60
 obtain ⟨L, hL⟩ : ∃ x, x = sortP l := ⟨_, rfl⟩
 rw [← hL] at HF HR3
 clear hL
 have hLn := pr_len HR3.out
 have h60 := HF.out.few
 have HLn := Lib.hid hLn
 have hn3 : n3 ≤ 60 := by omega
 clear hLn h60
 go_wp2_with fail
 refine (laid2_any A3 n3 c3 L _ HR3.out HF.out).mono ?_
 rintro e w4 ⟨hb, ⟨hok, rfl⟩ | ⟨hok, rfl⟩⟩
 ·replace HB := Lib.hid (HB.out.trans (hb.mono HB.out.size))
  clear hb
  go_wp2_with fail
  go_ret
  exact ⟨rfl, HB.out⟩
 replace HB := Lib.hid (HB.out.trans (hb.mono HB.out.size))
 replace HR3 := Lib.hid ((HR3.out.below hb).more hb.size)
 clear hb
 by_cases hnil : L = []
 ·rw [show rootY L = 0 by rw [hnil]; rfl]
  clear hnil
  go_wp2_with fail
  go_ret
  exact ⟨rfl, HB.out⟩
 obtain ⟨_, d, ns, hst⟩ := stands HF.out hnil hok
 obtain ⟨im, him⟩ : ∃ x, x = imY L := ⟨_, rfl⟩
 obtain ⟨r, hr⟩ : ∃ x, x = rootY L := ⟨_, rfl⟩
 rw [← him, ← hr] at hst ⊢
 clear him hr hok hnil
 have HST := Lib.hid hst
 obtain ⟨hr2, hrn⟩ := hst.root
 have hrz : ((r : Int) == 0) = false := by simp; omega
 have hims := hst.size
 have hnl := hst.len
 have hi4 : im.size ≤ 400000 := by omega
 have hr9 : r < 4294967296 := by omega
 clear hst
 have HRt := Lib.hid hrn
 have hfit : r * 128 + 128 ≤ im.size := by omega
 have hcut : ∀ k, k < 128 → readAt 128 (im.extract 0 (r * 128 + k)) r = none := fun k hk => size_cut hk hfit
 obtain ⟨Z, hZ⟩ : ∃ x, x = reps ⟨#[122]⟩ 256 := ⟨_, rfl⟩
 have hZs : Z.size = 256 := by rw [hZ, reps_size]; rfl
 have HTm0 := fun w => times_any ⟨#[122]⟩ 256 w (by decide) (by decide)
 rw [← hZ] at HTm0
 have HTm : ∀ w : World, Calls Tryz.prog 35 #[.string ⟨#[122]⟩, .int .i64 256] w fun e w' => e = .returned (.string Z) ∧ w' = w := fun w => (HTm0 w).mono fun _ _ ⟨a, b⟩ => ⟨a, b.symm⟩
 clear hZ HTm0
 have him2 : (256 : Int) ≤ (im.size : Int) := by omega
 obtain ⟨E, hE⟩ : ∃ x, x = im.extract 256 im.size := ⟨_, rfl⟩
 have hEs : E.size ≤ 400000 := by rw [hE, ByteArray.size_extract]; omega
 have hrd := readAt_more (rest := rest) hims hZs (by omega)
 rw [← hE] at hrd
 obtain ⟨e1, e2, e3⟩ := HST.out.other (s := Z ++ E ++ rest) (fun x hx => by have := (HST.out.mem x).1 hx; exact hrd x (by omega) (by omega))
 obtain ⟨more, hmore⟩ : ∃ x, x = Z ++ E ++ rest := ⟨_, rfl⟩
 have hms : more.size ≤ 400000 := by
  have h1 := HSrest.out
  have h2 : E.size + 256 = im.size := by rw [hE, ByteArray.size_extract]; omega
  rw [hmore, ByteArray.size_append, ByteArray.size_append, hZs]
  omega
 obtain ⟨Y, hY⟩ : ∃ x, x = Z ++ E := ⟨_, rfl⟩
 have hc1 : ¬ (9223372036854775807 < Z.size + E.size) := by omega
 have hc2 : ¬ (9223372036854775807 < Y.size + rest.size) := by have := HSrest.out; rw [hY, ByteArray.size_append]; omega
 rw [← hmore] at e1 e2 e3
 rw [← hY] at hmore
 have hN := treeS_len (l := L) (im := more) (r := r) (by rw [e1]; exact HF.out.few)
 have hA0 := fun w => lall0_any 128 more r ⟨#[]⟩ w hms hr9 hN.1
 rw [e1, e2] at hA0
 have hG1 := fun w => cget_any 128 im r key w hi4 hr9
 have hG2 := fun w => cget_any 128 more r key w hms hr9
 rw [e3 key] at hG2
 obtain ⟨gv, hgv⟩ : ∃ y, y = getV 128 im r key := ⟨_, rfl⟩
 rw [← hgv] at hG1 hG2
 clear hgv
 obtain ⟨v1, v2⟩ := gv
 have hP1 := fun w => cpages_any 128 more r w hms hr9
 have hP2 := fun w => cpages_any 128 im r w hi4 hr9
 rw [e1, e2] at hP1
 rw [HST.out.trav, HST.out.te] at hP2
 obtain ⟨rz, hrz1⟩ : ∃ x, x = r * 128 := ⟨_, rfl⟩
 obtain ⟨ry, hry⟩ : ∃ x, x = rz + 127 := ⟨_, rfl⟩
 obtain ⟨C1, hC1⟩ : ∃ x, x = im.extract 0 rz := ⟨_, rfl⟩
 obtain ⟨C2, hC2⟩ : ∃ x, x = im.extract 0 ry := ⟨_, rfl⟩
 have hn1 : readAt 128 C1 r = none := by rw [hC1, hrz1]; have := hcut 0 (by decide); rwa [Nat.add_zero] at this
 have hn2 : readAt 128 C2 r = none := by rw [hC2, hry, hrz1]; exact hcut 127 (by decide)
 have hC1s : C1.size ≤ 400000 := by rw [hC1, ByteArray.size_extract]; omega
 have hC2s : C2.size ≤ 400000 := by rw [hC2, ByteArray.size_extract]; omega
 have hP3 := fun w => cpages_any 128 C1 r w hC1s hr9
 rw [(root_none (by omega) hn1 key).1] at hP3
 have hG3 := fun w => cget_any 128 C2 r key w hC2s hr9
 rw [(root_none (by omega) hn2 key).2.2] at hG3
 dsimp only at hG1 hG2 hP1 hP2 hG3
 have HA0 := Lib.hid hA0
 have HG1 := Lib.hid hG1
 have HG2 := Lib.hid hG2
 have HG3 := Lib.hid hG3
 have HP1 := Lib.hid hP1
 have HP2 := Lib.hid hP2
 have HP3 := Lib.hid hP3
 have x1 := hE.symm
 have x2 := hY.symm
 have x3 := hmore.symm
 have x4 := hC1.symm
 have x5 := hC2.symm
 have i1 : (128 : Int) * (r : Int) = (rz : Int) := by omega
 have i2 : (rz : Int) + 127 = (ry : Int) := by omega
 have i3 : (rz : Int) ≤ (im.size : Int) := by omega
 have i4 : (ry : Int) ≤ (im.size : Int) := by omega
 have i5 : (0 : Int) ≤ (rz : Int) := by omega
 have i6 : (0 : Int) ≤ (ry : Int) := by omega
 have b1 : r ≤ 400000 := by omega
 have b2 : rz ≤ 400000 := by omega
 have b3 : ry ≤ 400000 := by omega
 have HLe := Lib.hid (show ns.length ≤ maxLen by unfold maxLen; omega)
 have HMn := Lib.hid (show n3 ≤ maxLen by unfold maxLen; omega)
 clear hcut hfit hN hA0 hG1 hG2 hG3 hP1 hP2 hP3 e1 e2 e3 hrd hE hY hmore hC1 hC2 hn1 hn2 hC1s hC2s hms hi4 hims hnl hZs hEs hrz1 hry hr2 hrn
 have hI64 := fun (n : Nat) (h : n ≤ 400000) => i64_nat n (by omega)
 have hW64 := fun (n : Nat) (h : n ≤ 400000) => wrap64_nat n (by omega)
 have j1 := hI64 r b1
 have j2 := hW64 r b1
 have j3 := hI64 rz b2
 have j4 := hW64 rz b2
 have j5 := hI64 ry b3
 have j6 := hW64 ry b3
 clear b1 b2 b3 hI64 hW64
 go_upto_region 9 with fail
 go_quiet ((go_at_call 35; exact Calls.quiet_of_same (HTm _)))
 go_wp2_with fail
 refine (HA0.out _).mono ?_
 rintro e w5 ⟨A5, n5, c5, rfl, h5, hb⟩
 obtain rfl : n5 = n3 := by have := pr_len h5; have := HLn.out; omega
 have HR5 := Lib.hid h5
 replace HB := Lib.hid ((below_drewN HB.out nq).trans (hb.mono (by exact HB.out.size)))
 replace HR3 := Lib.hid (((HR3.out.drewN nq).below hb).more hb.size)
 clear hb h5 HA0
 go_wp2_with fail
 refine (HG1.out _).mono ?_
 rintro e w6 ⟨rfl, hb⟩
 replace HB := Lib.hid (HB.out.trans (hb.mono HB.out.size))
 replace HR3 := Lib.hid ((HR3.out.below hb).more hb.size)
 replace HR5 := Lib.hid ((HR5.out.below hb).more hb.size)
 clear hb HG1
 go_wp2_with fail
 refine (HG2.out _).mono ?_
 rintro e w7 ⟨rfl, hb⟩
 replace HB := Lib.hid (HB.out.trans (hb.mono HB.out.size))
 replace HR3 := Lib.hid ((HR3.out.below hb).more hb.size)
 replace HR5 := Lib.hid ((HR5.out.below hb).more hb.size)
 clear hb HG2
 go_wp2_with fail
 refine (HP1.out _).mono ?_
 rintro e w8 ⟨A8, n8, c8, rfl, h8, hb⟩
 have HR8 := Lib.hid (show Reads w8 w8.heap.size 1 A8 n8 (ucells ns) from h8)
 replace HB := Lib.hid (HB.out.trans (hb.mono HB.out.size))
 replace HR3 := Lib.hid ((HR3.out.below hb).more hb.size)
 replace HR5 := Lib.hid ((HR5.out.below hb).more hb.size)
 clear hb h8 HP1
 go_wp2_with fail
 refine (HP2.out _).mono ?_
 rintro e w9 ⟨A9, n9, c9, rfl, h9, hb⟩
 have HR9 := Lib.hid (show Reads w9 w9.heap.size 1 A9 n9 (ucells ns) from h9)
 replace HB := Lib.hid (HB.out.trans (hb.mono HB.out.size))
 replace HR3 := Lib.hid ((HR3.out.below hb).more hb.size)
 replace HR5 := Lib.hid ((HR5.out.below hb).more hb.size)
 replace HR8 := Lib.hid ((HR8.out.below hb).more hb.size)
 have hn8 : n8 = ns.length := by have := ulen HR8.out; omega
 have hn9 : n9 = ns.length := by have := ulen HR9.out; omega
 subst hn8 hn9
 clear hb h9 HP2
 go_wp2_with fail
 refine (same12_yes A5 n5 c5 A3 c3 L _ HR5.out HR3.out HMn.out).mono ?_
 rintro e w10 ⟨rfl, q10, rfl⟩
 replace HB := Lib.hid (below_drewN HB.out q10)
 replace HR8 := Lib.hid (HR8.out.drewN q10)
 replace HR9 := Lib.hid (HR9.out.drewN q10)
 clear HR3 HR5
 go_wp2_with fail
 refine (sameU_yes A8 ns.length c8 A9 c9 ns _ HR8.out HR9.out HLe.out).mono ?_
 rintro e w11 ⟨rfl, q11, hq⟩
 replace HB := Lib.hid (show Below w.heap.size w w11 by rw [hq]; exact below_drewN HB.out q11)
 clear hq
 clear HR8 HR9
 go_wp2_with fail
 refine (HP3.out _).mono ?_
 rintro e w12 ⟨A12, n12, c12, rfl, _, hb⟩
 replace HB := Lib.hid (HB.out.trans (hb.mono HB.out.size))
 clear hb HP3
 go_wp2_with fail
 refine (HG3.out _).mono ?_
 rintro e w13 ⟨rfl, hb⟩
 replace HB := Lib.hid (HB.out.trans (hb.mono HB.out.size))
 clear hb HG3
 go_wp2_with fail
 go_ret
 exact ⟨rfl, HB.out⟩
end Go.Proofs.YtmmjckokjmpfpaaGreat

