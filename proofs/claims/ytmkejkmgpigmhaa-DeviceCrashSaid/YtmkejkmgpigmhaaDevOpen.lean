/-
  A slice of calls that came in, read as a list of calls; each with its conditions in its own statement.
-/
import Derived.Test.YtmkejkmgpigmhaaDevDoes
import Derived.Deep.Slices
import Derived.ChangeSame
import Derived.SizedLaws
namespace Go.Proofs.Ytmkejkmgpigmhaa
open Go.RowKit Go.ChangeShapes Go.WideShapes
open Go.Deep (open_slice choose_lt)
open Go.Lib hiding intOf
set_option linter.unusedVariables false
set_option linter.unusedSimpArgs false

theorem weightsAll_mem {H : Type} {P : Program} {e : TypeId} {m : Nat} : ∀ {l : List (DataW H)} {d : DataW H}, d ∈ l → m ∈ d.weights P e → m ∈ DataW.weightsAll P e l
  | d0 :: l, d, hd, hm => by
    simp only [DataW.weightsAll, List.mem_append]
    rcases List.mem_cons.1 hd with rfl | hd
    · exact .inl hm
    · exact .inr (weightsAll_mem hd hm)
theorem lit_i64 {z : Int} (h : (Lit.int .i64 z).wf = true) : -9223372036854775808 ≤ z ∧ z ≤ 9223372036854775807 := by
  simp [Lit.wf, IntKind.min, IntKind.max, IntKind.signed, IntKind.bits] at h
  omega
theorem lit_u32 {z : Int} (h : (Lit.int .u32 z).wf = true) : 0 ≤ z ∧ z ≤ 4294967295 := by
  simp [Lit.wf, IntKind.min, IntKind.max, IntKind.signed, IntKind.bits] at h
  omega
instance : Inhabited Act3 := ⟨⟨0, 0, ⟨#[]⟩, none, 0, 0, [], 0⟩⟩
/-- Cells of an element of five cells. -/
theorem act_cells {w : World} {p : Addr} {a : Act3} (h : ∀ j u, ([.int .i64 a.kind, .int .u32 a.n, .string a.block, .slice a.kA a.kn a.kc, .int .i64 a.at_] : List Value)[j]? = some u → w.cell? (p.add j) = some u) : ActAt w p a := by
  have e : ∀ j, 0 < j → p.add j = ⟨p.block, p.off + j, none⟩ := fun j hj => by unfold Addr.add; rw [if_neg (by omega)]
  refine ⟨h 0 _ rfl, ?_, ?_, ?_, ?_⟩
  · rw [← e 1 (by omega)]; exact h 1 _ rfl
  · rw [← e 2 (by omega)]; exact h 2 _ rfl
  · rw [← e 3 (by omega)]; exact h 3 _ rfl
  · rw [← e 4 (by omega)]; exact h 4 _ rfl
section
variable {H : Type} {enc : TypeId × Value → H} {w : World} {base : Nat} {held : Bool}
/-- A slice of integers among the cells. -/
theorem open_keep {fuel : Nat} {v : Value} {x : DataW H × List MemPlace} (h : DataW.trod enc Try.prog w base (fun _ => true) held fuel 38 [v] = some x) (hw : ∀ m ∈ x.1.weights Try.prog 38, m ≤ reachBytes) :
    ∃ (A : Option Addr) (n c : Nat) (zs : List Int), v = .slice A n c ∧ Reads w w.heap.size 1 A n (zs.map (Value.int .i64)) ∧ n ≤ 17592186044416 := by
  have h2 := h
  rcases DataW.trod_slice Try.underlying38 h with ⟨hv, _⟩ | ⟨a, len, cap, elems, rest, k, _, hv, hx, _, _, _, hl, _⟩
  · simp at hv
    subst hv
    exact ⟨_, _, _, [], rfl, Reads.none_, by omega⟩
  · simp at hv
    subst hv
    obtain ⟨zs, hz⟩ := isRow_open Try.underlying38 Try.underlying3 (by kernel_rfl) rfl h2
    refine ⟨_, _, _, zs.take len, rfl, hz.reads.1, ?_⟩
    have hb : (Try.prog.bytesOf 3) = 8 := by kernel_rfl
    have := hw ((elems.map (·.1)).length * 8 + (rest.map (·.1)).length * 8) (by
      rw [hx]
      simp [DataW.weights, Try.underlying38, hb, Nat.add_mul])
    rw [List.length_map, hl] at this
    unfold reachBytes at this
    omega
set_option maxRecDepth 100000 in
theorem open_acts {fuel : Nat} {A : Option Addr} {n c : Nat} {x : DataW H × List MemPlace} (h : DataW.trod enc Try.prog w base (fun _ => true) held fuel 40 [.slice A n c] = some x) (hw : ∀ m ∈ x.1.weights Try.prog 40, m ≤ reachBytes) :
    ∃ l, Acts w w.heap.size A n l ∧ n ≤ maxLen := by
  rcases open_slice Try.underlying40 h with ⟨hv, _⟩ | ⟨a, len, cap, m, k, D, Pl, hv, hb, hl, hm, hmm, hx, hi⟩
  · simp at hv
    obtain ⟨rfl, rfl, rfl⟩ := hv
    exact ⟨[], ⟨rfl, fun a ha => by simp at ha, fun h => by omega⟩, by simp [maxLen]⟩
  simp at hv
  obtain ⟨rfl, rfl, rfl⟩ := hv
  have hmm : m = c := by simpa using hmm
  subst hmm
  have hce : Try.prog.cellsOf 47 = 5 := by kernel_rfl
  have each : ∀ i, i < n → ∃ q : Act3, ActAt w (a.add (i * 5)) q ∧ ActOk w w.heap.size q ∧ a.block < w.heap.size := by
    intro i hin
    obtain ⟨cs', h1, h2⟩ := hi i (by omega)
    rw [hce] at h1
    obtain ⟨_, hlen, hcell⟩ := World.cells?_some h1
    obtain ⟨xs, k', hk, hxy, _, hxl, hf⟩ := DataW.trod_struct Try.underlying47 h2
    match xs, hxl, cs', hlen with
    | [y0, y1, y2, y3, y4], _, [v0, v1, v2, v3, v4], _ =>
      have g0 := hf 0 _ rfl
      have g1 := hf 1 _ rfl
      have g2 := hf 2 _ rfl
      have g3 := hf 3 _ rfl
      have g4 := hf 4 _ rfl
      have hone : ∀ t, t = 3 ∨ t = 30 ∨ t = 9 ∨ t = 38 → Try.prog.cellsOf t = 1 := by
        rintro t (rfl | rfl | rfl | rfl) <;> kernel_rfl
      simp [hone] at g0 g1 g2 g3 g4
      obtain ⟨z0, hv0, _, hz0⟩ := DataW.trod_int Try.underlying3 g0
      obtain ⟨z1, hv1, _, hz1⟩ := DataW.trod_int Try.underlying30 g1
      obtain ⟨s2, hv2, _, hs2⟩ := DataW.trod_string Try.underlying9 g2
      obtain ⟨z4, hv4, _, hz4⟩ := DataW.trod_int Try.underlying3 g4
      simp at hv0 hv1 hv2 hv4
      have hD : D i = .agg [y0.1, y1.1, y2.1, y3.1, y4.1] := by
        have := congrArg Prod.fst hxy
        simpa using this
      have hy3 : ∀ m ∈ y3.1.weights Try.prog 38, m ≤ reachBytes := fun m hm' => by
        refine hw m ?_
        rw [hx]
        simp only [DataW.weights, Try.underlying40, List.mem_cons, List.mem_append]
        refine .inr (.inl (weightsAll_mem (d := D i) (List.mem_map.2 ⟨i, List.mem_range.2 hin, rfl⟩) ?_))
        rw [hD]
        simp only [DataW.weights, Try.underlying47]
        exact DataW.weights_mem_each (j := 3) rfl rfl _ hm'
      obtain ⟨A3, n3, c3, zs, hv3, hr3, hn3⟩ := open_keep g3 hy3
      subst hv0 hv1 hv2 hv3 hv4
      have w1 := lit_u32 hz1
      have w4 := lit_i64 hz4
      have hlt : a.block < w.heap.size := by
        have := World.block_lt_of_cell? w _ (hcell 0 (by omega))
        simpa [block_add] using this
      have hn1 : ((z1.toNat : Nat) : Int) = z1 := by omega
      refine ⟨⟨z0, z1.toNat, s2, A3, n3, c3, zs, z4⟩, act_cells fun j u hu => ?_, ⟨by show z1.toNat ≤ _; omega, hs2, hr3, hn3, w4.1, w4.2⟩, hlt⟩
      have hj : j < 5 := (List.getElem?_eq_some_iff.1 hu).1
      rw [hcell j hj, ← hu]
      simp only [hn1]
  obtain ⟨q, hq⟩ := choose_lt each
  refine ⟨(List.range n).map q, ⟨by simp, fun a' ha' => ?_, fun hn => ⟨a, rfl, (hq 0 hn).2.2, fun j a' hj => ?_⟩⟩, by omega⟩
  · obtain ⟨i, hi', rfl⟩ := List.mem_map.1 ha'
    exact (hq i (List.mem_range.1 hi')).2.1
  · have hjn : j < n := by
      have := (List.getElem?_eq_some_iff.1 hj).1
      simpa using this
    simp [hjn] at hj
    subst hj
    exact (hq j hjn).1
end
end Go.Proofs.Ytmkejkmgpigmhaa
