/-
  A slice of buckets, and a bucket by value, that came in, read as plain data; each with its conditions in its own statement.
-/
import Derived.Test.YtgljmcameeeaiaaBk
import Derived.Deep.Slices
import Derived.ChangeSame
import Derived.SizedLaws
namespace Go.Proofs.Ytgljmcameeeaiaa
open Go.RowKit Go.ChangeShapes Go.WideShapes
open Go.Deep (open_slice choose_lt)
set_option linter.unusedVariables false
set_option linter.unusedSimpArgs false

instance : Inhabited Bk := ⟨⟨⟨#[]⟩, 0, 0⟩⟩
/-- What is known of a bucket that came in. -/
def BkOk (b : Bk) : Prop := b.nm.size ≤ maxLen ∧ b.rt < 4294967296 ∧ -9223372036854775808 ≤ b.ks ∧ b.ks ≤ 9223372036854775807
/-- What is known of a slice of buckets that came in. -/
def Bks (w : World) (B : Nat) (A : Option Addr) (n c : Nat) (l : List Bk) : Prop := Reads w B 3 A n (bkc l) ∧ n ≤ c ∧ c ≤ maxLen ∧ n ≤ 4398046511104 ∧ ∀ b, b ∈ l → BkOk b ∧ b.nm.size ≤ 140737488351232
theorem lit_i64' {z : Int} (h : (Lit.int .i64 z).wf = true) : -9223372036854775808 ≤ z ∧ z ≤ 9223372036854775807 := by
  simp [Lit.wf, IntKind.min, IntKind.max, IntKind.signed, IntKind.bits] at h
  omega
theorem lit_u32' {z : Int} (h : (Lit.int .u32 z).wf = true) : 0 ≤ z ∧ z ≤ 4294967295 := by
  simp [Lit.wf, IntKind.min, IntKind.max, IntKind.signed, IntKind.bits] at h
  omega
section
variable {H : Type} {enc : TypeId × Value → H} {w : World} {base : Nat} {spare : Nat → Bool} {held : Bool}
/-- A bucket's three cells. -/
theorem open_bkw {fuel : Nat} {cs : Array Value} {x : DataW H × List MemPlace} (h : DataW.trod enc Try.prog w base spare held fuel 33 cs.toList = some x) (hz : cs.size = 3) :
    ∃ (nm : ByteArray) (rt : Nat) (ks : Int), cs = #[.string nm, .int .u32 rt, .int .i64 ks] ∧ BkOk ⟨nm, rt, ks⟩ ∧ nm.size ∈ x.1.weights Try.prog 33 := by
  obtain ⟨cl, hcl⟩ : ∃ cl, cl = cs.toList := ⟨_, rfl⟩
  have hlen : cl.length = 3 := by rw [hcl, Array.length_toList]; exact hz
  have hce : cs = cl.toArray := by rw [hcl]
  rw [← hcl] at h
  obtain ⟨xs, k', hk, hxy, _, hxl, hf⟩ := DataW.trod_struct Try.underlying33 h
  match xs, hxl, cl, hlen with
  | [y0, y1, y2], _, [v0, v1, v2], _ =>
    have g0 := hf 0 _ rfl
    have g1 := hf 1 _ rfl
    have g2 := hf 2 _ rfl
    have hone : ∀ t, t = 3 ∨ t = 23 ∨ t = 9 → Try.prog.cellsOf t = 1 := by
      rintro t (rfl | rfl | rfl) <;> kernel_rfl
    simp [hone] at g0 g1 g2
    obtain ⟨s0, hv0, hd0, hs0⟩ := DataW.trod_string Try.underlying9 g0
    obtain ⟨z1, hv1, _, hz1⟩ := DataW.trod_int Try.underlying23 g1
    obtain ⟨z2, hv2, _, hz2⟩ := DataW.trod_int Try.underlying3 g2
    simp at hv0 hv1 hv2
    subst hv0 hv1 hv2
    have w1 := lit_u32' hz1
    have w2 := lit_i64' hz2
    have e1 : ((z1.toNat : Nat) : Int) = z1 := by omega
    refine ⟨s0, z1.toNat, z2, by rw [hce, e1], ⟨hs0, by show z1.toNat < _; omega, w2.1, w2.2⟩, ?_⟩
    have hx1 : x.1 = .agg [y0.1, y1.1, y2.1] := by rw [hxy]; rfl
    rw [hx1]
    simp only [DataW.weights, Try.underlying33]
    refine DataW.weights_mem_each (j := 0) rfl rfl _ ?_
    rw [hd0]
    simp [DataW.weights]
theorem open_bk {fuel : Nat} {cs : Array Value} {x : DataW H × List MemPlace} (h : DataW.trod enc Try.prog w base spare held fuel 33 cs.toList = some x) (hz : cs.size = 3) :
    ∃ (nm : ByteArray) (rt : Nat) (ks : Int), cs = #[.string nm, .int .u32 rt, .int .i64 ks] ∧ BkOk ⟨nm, rt, ks⟩ := by
  obtain ⟨nm, rt, ks, h1, h2, _⟩ := open_bkw h hz
  exact ⟨nm, rt, ks, h1, h2⟩
theorem bks_weights {e : TypeId} {m : Nat} : ∀ {l : List (DataW H)} {d : DataW H}, d ∈ l → m ∈ d.weights Try.prog e → m ∈ DataW.weightsAll Try.prog e l
  | d0 :: l, d, hd, hm => by
    simp only [DataW.weightsAll, List.mem_append]
    rcases List.mem_cons.1 hd with rfl | hd
    · exact .inl hm
    · exact .inr (bks_weights hd hm)
theorem open_bks {fuel : Nat} {A : Option Addr} {n c : Nat} {x : DataW H × List MemPlace} (h : DataW.trod enc Try.prog w base (fun _ => true) held fuel 30 [.slice A n c] = some x) (hw : ∀ m ∈ x.1.weights Try.prog 30, m ≤ reachBytes) :
    ∃ l, Bks w w.heap.size A n c l := by
  rcases open_slice Try.underlying30 h with ⟨hv, _⟩ | ⟨a, len, cap, m, k, D, Pl, hv, hb, hl, hm, hmm, hx, hi⟩
  · simp at hv
    obtain ⟨rfl, rfl, rfl⟩ := hv
    exact ⟨[], Reads.none_, Nat.le_refl _, by simp [maxLen], by omega, by simp⟩
  simp at hv
  obtain ⟨rfl, rfl, rfl⟩ := hv
  have hmm : m = c := by simpa using hmm
  subst hmm
  have hce : Try.prog.cellsOf 33 = 3 := by kernel_rfl
  have hby : Try.prog.bytesOf 33 = 32 := by kernel_rfl
  have hn : n ≤ 4398046511104 := by
    have := hw (((List.range n).map D).length * 32 + ((List.range (m - n)).map fun j => D (n + j)).length * 32) (by
      rw [hx]
      simp [DataW.weights, Try.underlying30, hby, Nat.add_mul])
    rw [List.length_map, List.length_range] at this
    unfold reachBytes at this
    omega
  have each : ∀ i, i < n → ∃ q : Bk, (∀ j u, q.cells[j]? = some u → w.cell? ((a.add (i * 3)).add j) = some u) ∧ (BkOk q ∧ q.nm.size ≤ 140737488351232) ∧ a.block < w.heap.size := by
    intro i hin
    obtain ⟨cs', h1, h2⟩ := hi i (by omega)
    rw [hce] at h1
    obtain ⟨_, hlen, hcell⟩ := World.cells?_some h1
    obtain ⟨nm, rt, ks, e, hok, hwt⟩ := open_bkw (cs := cs'.toArray) (by simpa using h2) (by simpa using hlen)
    have e' : cs' = [.string nm, .int .u32 rt, .int .i64 ks] := by
      have := congrArg Array.toList e
      simpa using this
    have hnm : nm.size ≤ reachBytes := hw _ (by
      rw [hx]
      simp only [DataW.weights, Try.underlying30, List.mem_cons, List.mem_append]
      exact .inr (.inl (bks_weights (d := D i) (List.mem_map.2 ⟨i, List.mem_range.2 hin, rfl⟩) hwt)))
    unfold reachBytes at hnm
    refine ⟨⟨nm, rt, ks⟩, fun j u hu => ?_, ⟨hok, hnm⟩, ?_⟩
    · have hj : j < 3 := (List.getElem?_eq_some_iff.1 hu).1
      rw [hcell j hj, e']
      exact hu
    · have h0 := hcell 0 (by omega)
      rw [e'] at h0
      have := World.block_lt_of_cell? w _ h0
      simpa [block_add] using this
  obtain ⟨q, hq⟩ := choose_lt each
  have hlq : ((List.range n).map q).length = n := by simp
  refine ⟨(List.range n).map q, ⟨by rw [bkc, rowsOf_length Bk.cells_len, hlq], fun h0 => ⟨a, rfl, (hq 0 (by omega)).2.2, fun j u hu => ?_⟩⟩, hl, hm, hn, fun b hb' => ?_⟩
  · have hj : j < n * 3 := by
      have h1 := (List.getElem?_eq_some_iff.1 hu).1
      rw [bkc, rowsOf_length Bk.cells_len, hlq] at h1
      exact h1
    have hd : j / 3 < n := by omega
    have hg := rowsOf_get Bk.cells_len ((List.range n).map q) (j / 3) (j % 3) (q (j / 3)) (by simp [hd]) (by omega)
    rw [show j / 3 * 3 + j % 3 = j by omega] at hg
    have hu' : (q (j / 3)).cells[j % 3]? = some u := by rw [← hg]; exact hu
    have := (hq (j / 3) hd).1 (j % 3) u hu'
    rw [add_add, show j / 3 * 3 + j % 3 = j by omega] at this
    exact this
  · obtain ⟨i, hi', rfl⟩ := List.mem_map.1 hb'
    exact (hq i (List.mem_range.1 hi')).2.1
end
end Go.Proofs.Ytgljmcameeeaiaa
