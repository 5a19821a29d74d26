/-
  A slice of forks, and a fork by value, that came in, read as plain data; each with its conditions in its own statement.
-/
import Derived.Test.YtddnfmdplkmmdaaFk
import Derived.Test.YtddnfmdplkmmdaaBkOpen
import Derived.Deep.Slices
import Derived.ChangeSame
import Derived.SizedLaws
namespace Go.Proofs.Ytddnfmdplkmmdaa
open Go.RowKit Go.ChangeShapes Go.WideShapes
open Go.Deep (open_slice choose_lt)
set_option linter.unusedVariables false
set_option linter.unusedSimpArgs false

instance : Inhabited Fk := ⟨⟨⟨#[]⟩, 0⟩⟩
/-- What is known of a fork that came in. -/
def FkOk (b : Fk) : Prop := b.nm.size ≤ maxLen ∧ b.rt < 4294967296
/-- What is known of a slice of forks that came in. -/
def Fks (w : World) (B : Nat) (A : Option Addr) (n c : Nat) (l : List Fk) : Prop := Reads w B 2 A n (fkc l) ∧ n ≤ c ∧ c ≤ maxLen ∧ n ≤ 5864062014805 ∧ ∀ b, b ∈ l → FkOk b ∧ b.nm.size ≤ 140737488351232
section
variable {H : Type} {enc : TypeId × Value → H} {w : World} {base : Nat} {spare : Nat → Bool} {held : Bool}
/-- A fork's two cells. -/
theorem open_fkw {fuel : Nat} {cs : Array Value} {x : DataW H × List MemPlace} (h : DataW.trod enc Try.prog w base spare held fuel 35 cs.toList = some x) (hz : cs.size = 2) :
    ∃ (nm : ByteArray) (rt : Nat), cs = #[.string nm, .int .u32 rt] ∧ FkOk ⟨nm, rt⟩ ∧ nm.size ∈ x.1.weights Try.prog 35 := by
  obtain ⟨cl, hcl⟩ : ∃ cl, cl = cs.toList := ⟨_, rfl⟩
  have hlen : cl.length = 2 := by rw [hcl, Array.length_toList]; exact hz
  have hce : cs = cl.toArray := by rw [hcl]
  rw [← hcl] at h
  obtain ⟨xs, k', hk, hxy, _, hxl, hf⟩ := DataW.trod_struct Try.underlying35 h
  match xs, hxl, cl, hlen with
  | [y0, y1], _, [v0, v1], _ =>
    have g0 := hf 0 _ rfl
    have g1 := hf 1 _ rfl
    have hone : ∀ t, t = 23 ∨ t = 9 → Try.prog.cellsOf t = 1 := by
      rintro t (rfl | rfl) <;> kernel_rfl
    simp [hone] at g0 g1
    obtain ⟨s0, hv0, hd0, hs0⟩ := DataW.trod_string Try.underlying9 g0
    obtain ⟨z1, hv1, _, hz1⟩ := DataW.trod_int Try.underlying23 g1
    simp at hv0 hv1
    subst hv0 hv1
    have w1 := lit_u32' hz1
    have e1 : ((z1.toNat : Nat) : Int) = z1 := by omega
    refine ⟨s0, z1.toNat, by rw [hce, e1], ⟨hs0, by show z1.toNat < _; omega⟩, ?_⟩
    have hx1 : x.1 = .agg [y0.1, y1.1] := by rw [hxy]; rfl
    rw [hx1]
    simp only [DataW.weights, Try.underlying35]
    refine DataW.weights_mem_each (j := 0) rfl rfl _ ?_
    rw [hd0]
    simp [DataW.weights]
theorem open_fk {fuel : Nat} {cs : Array Value} {x : DataW H × List MemPlace} (h : DataW.trod enc Try.prog w base spare held fuel 35 cs.toList = some x) (hz : cs.size = 2) :
    ∃ (nm : ByteArray) (rt : Nat), cs = #[.string nm, .int .u32 rt] ∧ FkOk ⟨nm, rt⟩ := by
  obtain ⟨nm, rt, h1, h2, _⟩ := open_fkw h hz
  exact ⟨nm, rt, h1, h2⟩
theorem fks_weights {e : TypeId} {m : Nat} : ∀ {l : List (DataW H)} {d : DataW H}, d ∈ l → m ∈ d.weights Try.prog e → m ∈ DataW.weightsAll Try.prog e l
  | d0 :: l, d, hd, hm => by
    simp only [DataW.weightsAll, List.mem_append]
    rcases List.mem_cons.1 hd with rfl | hd
    · exact .inl hm
    · exact .inr (fks_weights hd hm)
theorem open_fks {fuel : Nat} {A : Option Addr} {n c : Nat} {x : DataW H × List MemPlace} (h : DataW.trod enc Try.prog w base (fun _ => true) held fuel 30 [.slice A n c] = some x) (hw : ∀ m ∈ x.1.weights Try.prog 30, m ≤ reachBytes) :
    ∃ l, Fks w w.heap.size A n c l := by
  rcases open_slice Try.underlying30 h with ⟨hv, _⟩ | ⟨a, len, cap, m, k, D, Pl, hv, hb, hl, hm, hmm, hx, hi⟩
  · simp at hv
    obtain ⟨rfl, rfl, rfl⟩ := hv
    exact ⟨[], Reads.none_, Nat.le_refl _, by simp [maxLen], by omega, by simp⟩
  simp at hv
  obtain ⟨rfl, rfl, rfl⟩ := hv
  have hmm : m = c := by simpa using hmm
  subst hmm
  have hce : Try.prog.cellsOf 35 = 2 := by kernel_rfl
  have hby : Try.prog.bytesOf 35 = 24 := by kernel_rfl
  have hn : n ≤ 5864062014805 := by
    have := hw (((List.range n).map D).length * 24 + ((List.range (m - n)).map fun j => D (n + j)).length * 24) (by
      rw [hx]
      simp [DataW.weights, Try.underlying30, hby, Nat.add_mul])
    rw [List.length_map, List.length_range] at this
    unfold reachBytes at this
    omega
  have each : ∀ i, i < n → ∃ q : Fk, (∀ j u, q.cells[j]? = some u → w.cell? ((a.add (i * 2)).add j) = some u) ∧ (FkOk q ∧ q.nm.size ≤ 140737488351232) ∧ a.block < w.heap.size := by
    intro i hin
    obtain ⟨cs', h1, h2⟩ := hi i (by omega)
    rw [hce] at h1
    obtain ⟨_, hlen, hcell⟩ := World.cells?_some h1
    obtain ⟨nm, rt, e, hok, hwt⟩ := open_fkw (cs := cs'.toArray) (by simpa using h2) (by simpa using hlen)
    have e' : cs' = [.string nm, .int .u32 rt] := by
      have := congrArg Array.toList e
      simpa using this
    have hnm : nm.size ≤ reachBytes := hw _ (by
      rw [hx]
      simp only [DataW.weights, Try.underlying30, List.mem_cons, List.mem_append]
      exact .inr (.inl (fks_weights (d := D i) (List.mem_map.2 ⟨i, List.mem_range.2 hin, rfl⟩) hwt)))
    unfold reachBytes at hnm
    refine ⟨⟨nm, rt⟩, fun j u hu => ?_, ⟨hok, hnm⟩, ?_⟩
    · have hj : j < 2 := (List.getElem?_eq_some_iff.1 hu).1
      rw [hcell j hj, e']
      exact hu
    · have h0 := hcell 0 (by omega)
      rw [e'] at h0
      have := World.block_lt_of_cell? w _ h0
      simpa [block_add] using this
  obtain ⟨q, hq⟩ := choose_lt each
  have hlq : ((List.range n).map q).length = n := by simp
  refine ⟨(List.range n).map q, ⟨by rw [fkc, rowsOf_length Fk.cells_len, hlq], fun h0 => ⟨a, rfl, (hq 0 (by omega)).2.2, fun j u hu => ?_⟩⟩, hl, hm, hn, fun b hb' => ?_⟩
  · have hj : j < n * 2 := by
      have h1 := (List.getElem?_eq_some_iff.1 hu).1
      rw [fkc, rowsOf_length Fk.cells_len, hlq] at h1
      exact h1
    have hd : j / 2 < n := by omega
    have hg := rowsOf_get Fk.cells_len ((List.range n).map q) (j / 2) (j % 2) (q (j / 2)) (by simp [hd]) (by omega)
    rw [show j / 2 * 2 + j % 2 = j by omega] at hg
    have hu' : (q (j / 2)).cells[j % 2]? = some u := by rw [← hg]; exact hu
    have := (hq (j / 2) hd).1 (j % 2) u hu'
    rw [add_add, show j / 2 * 2 + j % 2 = j by omega] at this
    exact this
  · obtain ⟨i, hi', rfl⟩ := List.mem_map.1 hb'
    exact (hq i (List.mem_range.1 hi')).2.1
end
end Go.Proofs.Ytddnfmdplkmmdaa
