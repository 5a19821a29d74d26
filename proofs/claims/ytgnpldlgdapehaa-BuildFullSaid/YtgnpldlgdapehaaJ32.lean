/-
  A slice of items that came in, read as plain data; with its conditions in its own statement.
-/
import Derived.Test.YtgnpldlgdapehaaJ11
import Derived.Test.YtgnpldlgdapehaaJ2
import Derived.Deep.Slices
import Derived.ChangeSame
import Derived.SizedLaws
set_option linter.unusedVariables false
set_option linter.unusedSimpArgs false
namespace Go.Proofs.Ytgnpldlgdapehaa
open Go.RowKit Go.ChangeShapes Go.WideShapes
open Go.Deep (open_slice choose_lt)
set_option maxRecDepth 100000

instance : Inhabited It := ⟨⟨⟨#[]⟩, ⟨#[]⟩, false, 0, 0⟩⟩
def ItOk (b : It) : Prop := b.ky.size ≤ maxLen ∧ b.vl.size ≤ maxLen ∧ -9223372036854775808 ≤ b.ln ∧ b.ln ≤ 9223372036854775807 ∧ b.hd < 4294967296
def Its (w : World) (B : Nat) (A : Option Addr) (n c : Nat) (l : List It) : Prop := Reads w B 5 A n (itc l) ∧ n ≤ c ∧ c ≤ maxLen ∧ n ≤ 2513169434916 ∧ ∀ b, b ∈ l → ItOk b ∧ (b.ky.size ≤ 140737488351232 ∧ b.vl.size ≤ 140737488351232)
theorem Its.near {w : World} {B : Nat} {A : Option Addr} {n c : Nat} {l : List It} (h : Its w B A n c l) : NearI l := fun b hb => (h.2.2.2.2 b hb).2
section
variable {H : Type} {enc : TypeId × Value → H} {w : World} {base : Nat} {spare : Nat → Bool} {held : Bool}
theorem its_weights {e : TypeId} {m : Nat} : ∀ {l : List (DataW H)} {d : DataW H}, d ∈ l → m ∈ d.weights Try.prog e → m ∈ DataW.weightsAll Try.prog e l
 | d0 :: l, d, hd, hm => by
  simp only [DataW.weightsAll, List.mem_append]
  rcases List.mem_cons.1 hd with rfl | hd
  ·exact .inl hm
  ·exact .inr (its_weights hd hm)
theorem open_itw {fuel : Nat} {cs : Array Value} {x : DataW H × List MemPlace} (h : DataW.trod enc Try.prog w base spare held fuel 46 cs.toList = some x) (hz : cs.size = 5) :
  ∃ b : It, cs = b.cells.toArray ∧ ItOk b ∧ b.ky.size ∈ x.1.weights Try.prog 46 ∧ b.vl.size ∈ x.1.weights Try.prog 46 := by
 obtain ⟨cl, hcl⟩ : ∃ cl, cl = cs.toList := ⟨_, rfl⟩
 have hlen : cl.length = 5 := by rw [hcl, Array.length_toList]; exact hz
 have hce : cs = cl.toArray := by rw [hcl]
 rw [← hcl] at h
 obtain ⟨xs, k', hk, hxy, _, hxl, hf⟩ := DataW.trod_struct Try.underlying46 h
 match xs, hxl, cl, hlen with
 | [y0, y1, y2, y3, y4], _, [v0, v1, v2, v3, v4], _ =>
  have g0 := hf 0 _ rfl
  have g1 := hf 1 _ rfl
  have g2 := hf 2 _ rfl
  have g3 := hf 3 _ rfl
  have g4 := hf 4 _ rfl
  have hone : ∀ t, t = 27 ∨ t = 9 ∨ t = 4 ∨ t = 3 → Try.prog.cellsOf t = 1 := by
   rintro t (rfl | rfl | rfl | rfl) <;> kernel_rfl
  simp [hone] at g0 g1 g2 g3 g4
  obtain ⟨s0, hv0, hd0, hs0⟩ := DataW.trod_string Try.underlying9 g0
  obtain ⟨s1, hv1, hd1, hs1⟩ := DataW.trod_string Try.underlying9 g1
  obtain ⟨b2, hv2, hd2⟩ := DataW.trod_bool Try.underlying4 g2
  obtain ⟨z3, hv3, _, hz3⟩ := DataW.trod_int Try.underlying3 g3
  obtain ⟨z4, hv4, _, hz4⟩ := DataW.trod_int Try.underlying27 g4
  simp at hv0 hv1 hv2 hv3 hv4
  subst hv0 hv1 hv2 hv3 hv4
  have w3 := lit_i64' hz3
  have w4 := lit_u32' hz4
  have e4 : ((z4.toNat : Nat) : Int) = z4 := by omega
  refine ⟨⟨s0, s1, b2, z3, z4.toNat⟩, by rw [hce]; simp only [It.cells, e4], ⟨hs0, hs1, w3.1, w3.2, by show z4.toNat < _; omega⟩, ?_, ?_⟩
  ·have hx1 : x.1 = .agg [y0.1, y1.1, y2.1, y3.1, y4.1] := by rw [hxy]; rfl
   rw [hx1]
   simp only [DataW.weights, Try.underlying46]
   refine DataW.weights_mem_each (j := 0) rfl rfl _ ?_
   rw [hd0]
   simp [DataW.weights]
  ·have hx1 : x.1 = .agg [y0.1, y1.1, y2.1, y3.1, y4.1] := by rw [hxy]; rfl
   rw [hx1]
   simp only [DataW.weights, Try.underlying46]
   refine DataW.weights_mem_each (j := 1) rfl rfl _ ?_
   rw [hd1]
   simp [DataW.weights]
theorem open_its {fuel : Nat} {A : Option Addr} {n c : Nat} {x : DataW H × List MemPlace} (h : DataW.trod enc Try.prog w base (fun _ => true) held fuel 23 [.slice A n c] = some x) (hw : ∀ m ∈ x.1.weights Try.prog 23, m ≤ reachBytes) :
  ∃ l, Its w w.heap.size A n c l := by
 rcases open_slice Try.underlying23 h with ⟨hv, _⟩ | ⟨a, len, cap, m, k, D, Pl, hv, hb, hl, hm, hmm, hx, hi⟩
 ·simp at hv
  obtain ⟨rfl, rfl, rfl⟩ := hv
  exact ⟨[], Reads.none_, Nat.le_refl _, by simp [maxLen], by omega, by simp⟩
 simp at hv
 obtain ⟨rfl, rfl, rfl⟩ := hv
 have hmm : m = c := by simpa using hmm
 subst hmm
 have hce : Try.prog.cellsOf 46 = 5 := by kernel_rfl
 have hby : Try.prog.bytesOf 46 = 56 := by kernel_rfl
 have hn : n ≤ 2513169434916 := by
  have := hw (((List.range n).map D).length * 56 + ((List.range (m - n)).map fun j => D (n + j)).length * 56) (by
   rw [hx]
   simp [DataW.weights, Try.underlying23, hby, Nat.add_mul])
  rw [List.length_map, List.length_range] at this
  unfold reachBytes at this
  omega
 have each : ∀ i, i < n → ∃ q : It, (∀ j u, q.cells[j]? = some u → w.cell? ((a.add (i * 5)).add j) = some u) ∧ (ItOk q ∧ (q.ky.size ≤ 140737488351232 ∧ q.vl.size ≤ 140737488351232)) ∧ a.block < w.heap.size := by
  intro i hin
  obtain ⟨cs', h1, h2⟩ := hi i (by omega)
  rw [hce] at h1
  obtain ⟨_, hlen, hcell⟩ := World.cells?_some h1
  obtain ⟨b, e, hok, hwt, hwt2⟩ := open_itw (cs := cs'.toArray) (by simpa using h2) (by simpa using hlen)
  have e' : cs' = b.cells := by
   have := congrArg Array.toList e
   simpa using this
  have hin2 : ∀ m, m ∈ (D i).weights Try.prog 46 → m ≤ reachBytes := fun m hm => hw _ (by
   rw [hx]
   simp only [DataW.weights, Try.underlying23, List.mem_cons, List.mem_append]
   exact .inr (.inl (its_weights (d := D i) (List.mem_map.2 ⟨i, List.mem_range.2 hin, rfl⟩) hm)))
  have hnm := hin2 _ hwt
  have hnm2 := hin2 _ hwt2
  unfold reachBytes at hnm hnm2
  refine ⟨b, fun j u hu => ?_, ⟨hok, hnm, hnm2⟩, ?_⟩
  ·have hj : j < 5 := by
    have := (List.getElem?_eq_some_iff.1 hu).1
    rwa [It.cells_len] at this
   rw [hcell j hj, e']
   exact hu
  ·have h0 := hcell 0 (by omega)
   rw [e'] at h0
   have := World.block_lt_of_cell? w _ h0
   simpa [block_add] using this
 obtain ⟨q, hq⟩ := choose_lt each
 have hlq : ((List.range n).map q).length = n := by simp
 refine ⟨(List.range n).map q, ⟨by rw [itc, rowsOf_length It.cells_len, hlq], fun h0 => ⟨a, rfl, (hq 0 (by omega)).2.2, fun j u hu => ?_⟩⟩, hl, hm, hn, fun b hb' => ?_⟩
 ·have hj : j < n * 5 := by
   have h1 := (List.getElem?_eq_some_iff.1 hu).1
   rw [itc, rowsOf_length It.cells_len, hlq] at h1
   exact h1
  have hd : j / 5 < n := by omega
  have hg := rowsOf_get It.cells_len ((List.range n).map q) (j / 5) (j % 5) (q (j / 5)) (by simp [hd]) (by omega)
  rw [show j / 5 * 5 + j % 5 = j by omega] at hg
  have hu' : (q (j / 5)).cells[j % 5]? = some u := by rw [← hg]; exact hu
  have := (hq (j / 5) hd).1 (j % 5) u hu'
  rw [add_add, show j / 5 * 5 + j % 5 = j by omega] at this
  exact this
 ·obtain ⟨i, hi', rfl⟩ := List.mem_map.1 hb'
  exact (hq i (List.mem_range.1 hi')).2.1
end
end Go.Proofs.Ytgnpldlgdapehaa

