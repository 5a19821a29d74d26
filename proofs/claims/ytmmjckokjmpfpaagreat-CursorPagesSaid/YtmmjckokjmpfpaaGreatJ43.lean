/-
  Texts that the main proof rests on, put together: CuLaw, BkOpen, PrOpen. No statement is proved here.
-/
import Derived.Test.YtmmjckokjmpfpaaGreatJ42
import Derived.Test.YtmmjckokjmpfpaaGreatJ36
import Derived.Test.YtmmjckokjmpfpaaGreatJ41
import Derived.Test.YtmmjckokjmpfpaaGreatJ8
import Derived.Deep.Slices
import Derived.ChangeSame
import Derived.SizedLaws
import Derived.Test.YtmmjckokjmpfpaaGreatJ35
set_option linter.unusedVariables false
set_option linter.unusedSimpArgs false
namespace Go.Proofs.YtmmjckokjmpfpaaGreat
open Go.RowKit
open Go.Lib hiding intOf
attribute [local go_sem ↓] Go.wp_at_zero Go.wp_at_succ

def fewL : List Pr := [⟨⟨#[97]⟩, ⟨#[49]⟩⟩, ⟨⟨#[98]⟩, ⟨#[50]⟩⟩, ⟨⟨#[99]⟩, ⟨#[]⟩⟩]
theorem fewL_light : lightP fewL = true := by decide +kernel
theorem fewL_asc : (fewL.map (·.ky)).Pairwise lessB := by
 simp [fewL, lessB]
 decide +kernel
theorem fewL_few : FewP fewL := ⟨by decide +kernel, (lightP_parts fewL_light).2, fewL_asc⟩
theorem fewL_ok : okY fewL = true := by decide +kernel
theorem fewL_root : rootY fewL = 2 := by decide +kernel
theorem fewL_from : lessN ⟨#[98]⟩ fewL = 1 := by decide +kernel
theorem treeS_len {l : List Pr} {im : ByteArray} {r : Nat} (h1 : (treeV 128 im r).1.length ≤ 60) : (treeS 128 im r).length ≤ 20000 ∧ ∀ key, (fromS 128 im r key).length ≤ 20000 := by
 have h : (treeS 128 im r).length ≤ 61 := by
  unfold treeS stepsT
  rw [List.length_append, List.length_map]
  split
  ·simp; omega
  ·simp; omega
 refine ⟨by omega, fun key => ?_⟩
 unfold fromS
 have := List.length_filter_le (keepK key) (treeS 128 im r)
 omega
theorem prc_at {w : World} (L : List Pr) {A : Option Addr} {cs : Array Value} {g : Nat} {t : TypeId} (h : Blk w g t cs) (hc : cs.toList = prc L) : Reads w w.heap.size 2 (some ⟨g, 0, none⟩) L.length (prc L) := by
 refine ⟨by rw [prc, rowsOf_length Pr.cells_len], fun h0 => ⟨⟨g, 0, none⟩, rfl, h.lt, fun j u hu => ?_⟩⟩
 rw [show (⟨g, 0, none⟩ : Addr).add j = ⟨g, j, none⟩ by unfold Addr.add; split <;> simp_all, h.cell j, ← hu, ← hc]
 simp
set_option maxRecDepth 100000 in
set_option maxHeartbeats 6400000 in
theorem few_any (w : World) : Calls Tryz.prog 12 #[] w fun e w' => ∃ A, e = .returned (.slice A 3 3) ∧ Reads w' w'.heap.size 2 A 3 (prc fewL) ∧ Below w.heap.size w w' := by
 go_enter Tryz.func12, Tryz.ntmps12
 go_wp2_with fail
 go_ret
 exact ⟨_, rfl, prc_at fewL (A := none) (Blk.new w _ _) rfl, (Below.refl _ _).alloc (Nat.le_refl _) _⟩
theorem laid2_any (A : Option Addr) (n c : Nat) (l : List Pr) (w : World) (hr : Reads w w.heap.size 2 A n (prc l)) (hk : FewP l) :
  Calls Tryz.prog 11 #[.int .i64 128, .slice A n c] w fun e w' => Below w.heap.size w w' ∧ ((okY l = false ∧ e = .returned (.tuple #[.string ⟨#[]⟩, .int .u32 0, .bool false])) ∨ (okY l = true ∧ e = .returned (.tuple #[.string (imY l), .int .u32 (rootY l), .bool true]))) := by
 refine (laid_any A n c l w hr hk.lay).mono ?_
 rintro e w' ⟨hb, h⟩
 refine ⟨hb, h.imp (fun h => h) fun ⟨h1, h2⟩ => ⟨h1, ?_⟩⟩
 rw [h2, (told hk h1).err]
 rfl
set_option maxRecDepth 100000 in
set_option maxHeartbeats 6400000 in
theorem lives12_any (w : World) : Calls Tryz.prog 10 #[] w fun e w' => e = .returned (.bool true) ∧ Below w.heap.size w w' := by
 have hT := told fewL_few fewL_ok
 have hrt := fewL_root
 obtain ⟨im, him⟩ : ∃ x, x = imY fewL := ⟨_, rfl⟩
 obtain ⟨r, hr⟩ : ∃ x, x = rootY fewL := ⟨_, rfl⟩
 rw [← him, ← hr] at hT
 have hN := (treeS_len (l := fewL) (im := im) (r := r) (by rw [hT.tree]; decide)).2 ⟨#[98]⟩
 have HA := Lib.hid (fun w => lall1_any 128 im r ⟨#[98]⟩ w hT.size hT.root hN)
 have hf : fromP ⟨#[98]⟩ (treeV 128 im r).1 = fewL.drop 1 := by rw [hT.tree, fromP_drop _ fewL_asc, fewL_from]
 rw [hf, hT.te] at HA
 have HL := Lib.hid (fun w A (h : Reads w w.heap.size 2 A 3 (prc fewL)) => laid2_any A 3 3 fewL w h fewL_few)
 rw [← him, ← hr, fewL_ok] at HL
 clear hN hf hT him hr hrt
 have HB := Lib.hid (Below.refl w.heap.size w)
 go_enter Tryz.func10, Tryz.ntmps10
 go_wp2_with fail
 refine (few_any _).mono ?_
 rintro e w1 ⟨A1, rfl, h1, hb⟩
 replace HB := Lib.hid (HB.out.trans (hb.mono HB.out.size))
 have HR1 := Lib.hid h1
 clear hb h1
 go_wp2_with fail
 refine (HL.out _ _ HR1.out).mono ?_
 rintro e w2 ⟨hb, ⟨h, _⟩ | ⟨_, rfl⟩⟩
 ·cases h
 replace HB := Lib.hid (HB.out.trans (hb.mono HB.out.size))
 clear hb HL HR1
 go_wp2_with fail
 refine (HA.out _).mono ?_
 rintro e w3 ⟨A3, n3, c3, rfl, h3, hb⟩
 replace HB := Lib.hid (HB.out.trans (hb.mono HB.out.size))
 have HR3 := Lib.hid h3
 have hn3 : n3 = 2 := by have := pr_len h3; simp [fewL] at this; omega
 subst hn3
 clear hb h3 HA
 go_wp2_with fail
 refine (few_any _).mono ?_
 rintro e w4 ⟨A4, rfl, h4, hb⟩
 replace HB := Lib.hid (HB.out.trans (hb.mono HB.out.size))
 have HR4 := Lib.hid h4
 replace HR3 := Lib.hid (HR3.out.below hb)
 clear hb h4
 obtain ⟨X, q, hX, hXr⟩ := partP_hi A4 3 3 1 (by omega) (by omega)
 have HX := Lib.hid (show Reads w4 w4.heap.size 2 X 2 (prc (fewL.drop 1)) from hXr w4 _ _ HR4.out)
 have hX2 : ∀ w : World, (Instr.sliceAt 26 (.slice A4 3 3) (some (.int .i64 1)) none none).run Tryz.prog w = .ok (.slice X 2 q) w := hX
 clear hXr hX
 go_wp2_with fail
 refine (same12_yes A3 2 c3 X q (fewL.drop 1) _ HR3.out HX.out (by decide)).mono ?_
 rintro e w5 ⟨rfl, q5, rfl⟩
 replace HB := Lib.hid (below_drewN HB.out q5)
 clear hX2
 go_wp2_with fail
 go_ret
 exact ⟨rfl, HB.out⟩
end Go.Proofs.YtmmjckokjmpfpaaGreat

namespace Go.Proofs.YtmmjckokjmpfpaaGreat
open Go.RowKit Go.ChangeShapes Go.WideShapes
open Go.Deep (open_slice choose_lt)

instance : Inhabited Bk := ⟨⟨⟨#[]⟩, 0, 0⟩⟩
section
variable {H : Type} {enc : TypeId × Value → H} {w : World} {base : Nat} {spare : Nat → Bool} {held : Bool}
end
end Go.Proofs.YtmmjckokjmpfpaaGreat

namespace Go.Proofs.YtmmjckokjmpfpaaGreat
open Go.RowKit Go.ChangeShapes Go.WideShapes
open Go.Deep (open_slice choose_lt)

instance : Inhabited Pr := ⟨⟨⟨#[]⟩, ⟨#[]⟩⟩⟩
def Prs (w : World) (B : Nat) (A : Option Addr) (n c : Nat) (l : List Pr) : Prop := Reads w B 2 A n (prc l) ∧ n ≤ c ∧ c ≤ maxLen ∧ n ≤ 4398046511104 ∧ ∀ b, b ∈ l → b.ky.size ≤ 140737488351232 ∧ b.vl.size ≤ 140737488351232
theorem Prs.near {w : World} {B : Nat} {A : Option Addr} {n c : Nat} {l : List Pr} (h : Prs w B A n c l) : NearP l := h.2.2.2.2
section
variable {H : Type} {enc : TypeId × Value → H} {w : World} {base : Nat} {spare : Nat → Bool} {held : Bool}
theorem prs_weights {e : TypeId} {m : Nat} : ∀ {l : List (DataW H)} {d : DataW H}, d ∈ l → m ∈ d.weights Tryz.prog e → m ∈ DataW.weightsAll Tryz.prog e l
 | d0 :: l, d, hd, hm => by
  simp only [DataW.weightsAll, List.mem_append]
  rcases List.mem_cons.1 hd with rfl | hd
  ·exact .inl hm
  ·exact .inr (prs_weights hd hm)
set_option maxRecDepth 100000 in
theorem open_prw {fuel : Nat} {cs : Array Value} {x : DataW H × List MemPlace} (h : DataW.trod enc Tryz.prog w base spare held fuel 55 cs.toList = some x) (hz : cs.size = 2) :
  ∃ b : Pr, cs = b.cells.toArray ∧ b.ky.size ∈ x.1.weights Tryz.prog 55 ∧ b.vl.size ∈ x.1.weights Tryz.prog 55 := by
 obtain ⟨cl, hcl⟩ : ∃ cl, cl = cs.toList := ⟨_, rfl⟩
 have hlen : cl.length = 2 := by rw [hcl, Array.length_toList]; exact hz
 have hce : cs = cl.toArray := by rw [hcl]
 rw [← hcl] at h
 obtain ⟨xs, k', hk, hxy, _, hxl, hf⟩ := DataW.trod_struct Tryz.underlying55 h
 match xs, hxl, cl, hlen with
 | [y0, y1], _, [v0, v1], _ =>
  have g0 := hf 0 _ rfl
  have g1 := hf 1 _ rfl
  have hone : Tryz.prog.cellsOf 9 = 1 := by kernel_rfl
  simp [hone] at g0 g1
  obtain ⟨s0, hv0, hd0, hs0⟩ := DataW.trod_string Tryz.underlying9 g0
  obtain ⟨s1, hv1, hd1, hs1⟩ := DataW.trod_string Tryz.underlying9 g1
  simp at hv0 hv1
  subst hv0 hv1
  refine ⟨⟨s0, s1⟩, by rw [hce]; rfl, ?_, ?_⟩
  ·have hx1 : x.1 = .agg [y0.1, y1.1] := by rw [hxy]; rfl
   rw [hx1]
   simp only [DataW.weights, Tryz.underlying55]
   refine DataW.weights_mem_each (j := 0) rfl rfl _ ?_
   rw [hd0]
   simp [DataW.weights]
  ·have hx1 : x.1 = .agg [y0.1, y1.1] := by rw [hxy]; rfl
   rw [hx1]
   simp only [DataW.weights, Tryz.underlying55]
   refine DataW.weights_mem_each (j := 1) rfl rfl _ ?_
   rw [hd1]
   simp [DataW.weights]
theorem open_prs {fuel : Nat} {A : Option Addr} {n c : Nat} {x : DataW H × List MemPlace} (h : DataW.trod enc Tryz.prog w base (fun _ => true) held fuel 26 [.slice A n c] = some x) (hw : ∀ m ∈ x.1.weights Tryz.prog 26, m ≤ reachBytes) :
  ∃ l, Prs w w.heap.size A n c l := by
 rcases open_slice Tryz.underlying26 h with ⟨hv, _⟩ | ⟨a, len, cap, m, k, D, Pl, hv, hb, hl, hm, hmm, hx, hi⟩
 ·simp at hv
  obtain ⟨rfl, rfl, rfl⟩ := hv
  exact ⟨[], Reads.none_, Nat.le_refl _, by simp [maxLen], by omega, by simp⟩
 simp at hv
 obtain ⟨rfl, rfl, rfl⟩ := hv
 have hmm : m = c := by simpa using hmm
 subst hmm
 have hce : Tryz.prog.cellsOf 55 = 2 := by kernel_rfl
 have hby : Tryz.prog.bytesOf 55 = 32 := by kernel_rfl
 have hn : n ≤ 4398046511104 := by
  have := hw (((List.range n).map D).length * 32 + ((List.range (m - n)).map fun j => D (n + j)).length * 32) (by
   rw [hx]
   simp [DataW.weights, Tryz.underlying26, hby, Nat.add_mul])
  rw [List.length_map, List.length_range] at this
  unfold reachBytes at this
  omega
 have each : ∀ i, i < n → ∃ q : Pr, (∀ j u, q.cells[j]? = some u → w.cell? ((a.add (i * 2)).add j) = some u) ∧ (q.ky.size ≤ 140737488351232 ∧ q.vl.size ≤ 140737488351232) ∧ a.block < w.heap.size := by
  intro i hin
  obtain ⟨cs', h1, h2⟩ := hi i (by omega)
  rw [hce] at h1
  obtain ⟨_, hlen, hcell⟩ := World.cells?_some h1
  obtain ⟨b, e, hwt, hwt2⟩ := open_prw (cs := cs'.toArray) (by simpa using h2) (by simpa using hlen)
  have e' : cs' = b.cells := by
   have := congrArg Array.toList e
   simpa using this
  have hin2 : ∀ m, m ∈ (D i).weights Tryz.prog 55 → m ≤ reachBytes := fun m hm => hw _ (by
   rw [hx]
   simp only [DataW.weights, Tryz.underlying26, List.mem_cons, List.mem_append]
   exact .inr (.inl (prs_weights (d := D i) (List.mem_map.2 ⟨i, List.mem_range.2 hin, rfl⟩) hm)))
  have hnm := hin2 _ hwt
  have hnm2 := hin2 _ hwt2
  unfold reachBytes at hnm hnm2
  refine ⟨b, fun j u hu => ?_, ⟨hnm, hnm2⟩, ?_⟩
  ·have hj : j < 2 := by
    have := (List.getElem?_eq_some_iff.1 hu).1
    rwa [Pr.cells_len] at this
   rw [hcell j hj, e']
   exact hu
  ·have h0 := hcell 0 (by omega)
   rw [e'] at h0
   have := World.block_lt_of_cell? w _ h0
   simpa [block_add] using this
 obtain ⟨q, hq⟩ := choose_lt each
 have hlq : ((List.range n).map q).length = n := by simp
 refine ⟨(List.range n).map q, ⟨by rw [prc, rowsOf_length Pr.cells_len, hlq], fun h0 => ⟨a, rfl, (hq 0 (by omega)).2.2, fun j u hu => ?_⟩⟩, hl, hm, hn, fun b hb' => ?_⟩
 ·have hj : j < n * 2 := by
   have h1 := (List.getElem?_eq_some_iff.1 hu).1
   rw [prc, rowsOf_length Pr.cells_len, hlq] at h1
   exact h1
  have hd : j / 2 < n := by omega
  have hg := rowsOf_get Pr.cells_len ((List.range n).map q) (j / 2) (j % 2) (q (j / 2)) (by simp [hd]) (by omega)
  rw [show j / 2 * 2 + j % 2 = j by omega] at hg
  have hu' : (q (j / 2)).cells[j % 2]? = some u := by rw [← hg]; exact hu
  have := (hq (j / 2) hd).1 (j % 2) u hu'
  rw [add_add, show j / 2 * 2 + j % 2 = j by omega] at this
  exact this
 ·obtain ⟨i, hi', rfl⟩ := List.mem_map.1 hb'
  exact (hq i (List.mem_range.1 hi')).2.1
end
end Go.Proofs.YtmmjckokjmpfpaaGreat

