/-
  Texts that the main proof rests on, put together: SortW, FrameOpen, PgsOpen. No statement is proved here.
-/
import Derived.Test.YtabhhccdbfjigaaJ50
import Derived.Test.YtabhhccdbfjigaaJ44
import Derived.Test.YtabhhccdbfjigaaJ1
import Derived.Deep.Slices
import Derived.SliceStrings
import Derived.ChangeSame
import Derived.SizedLaws
import Derived.Test.YtabhhccdbfjigaaJ12
import Derived.Test.YtabhhccdbfjigaaJ26
namespace Go.Proofs.Ytabhhccdbfjigaa
open Go.RowKit Go.Sort
set_option linter.unusedVariables false
set_option linter.unusedSimpArgs false

/-- A sorted permutation of an array of naturals, as a list. -/
theorem sorted_nats (l : List Nat) (e : Array Int) (hP : PermIn 0 l.length (l.map Int.ofNat).toArray e) (h3 : SortedIn ltInt 0 l.length e) : ∃ l' : List Nat, l'.Perm l ∧ l'.Pairwise (· ≤ ·) ∧ e.size = l.length ∧ e.toList = l'.map Int.ofNat := by
  obtain ⟨d, hd⟩ : ∃ d, d = (l.map Int.ofNat).toArray := ⟨_, rfl⟩
  rw [← hd] at hP
  have hds : d.size = l.length := by rw [hd]; simp
  obtain ⟨h1, _, h2⟩ := hP
  rw [← hds] at h2 h3
  have hp : e.toList.Perm (l.map Int.ofNat) := by
    have : e.toList.Perm d.toList := by
      have a1 : (e.extract 0 d.size).toList = e.toList := by rw [← h1]; simp
      have a2 : (d.extract 0 d.size).toList = d.toList := by simp
      rw [a1, a2] at h2
      exact h2
    rw [hd] at this
    simpa using this
  have hm : e.toList = (e.toList.map Int.toNat).map Int.ofNat := by
    rw [List.map_map]
    refine (List.map_id' _).symm.trans (List.map_congr_left fun x hx => ?_)
    obtain ⟨y, _, rfl⟩ := List.mem_map.1 (hp.mem_iff.1 hx)
    simp
  refine ⟨e.toList.map Int.toNat, ?_, ?_, by rw [h1, hds], hm⟩
  · have := hp.map Int.toNat
    rw [List.map_map] at this
    refine this.trans (List.Perm.of_eq ?_)
    conv => rhs; rw [← List.map_id l]
    exact List.map_congr_left fun x _ => by simp
  · rw [List.pairwise_map, List.pairwise_iff_getElem]
    intro i j hi hj hij
    have h4 := h3 i j (Nat.zero_le _) hij (by rw [← h1]; simpa using hj)
    rw [Array.length_toList] at hi hj
    rw [getElem!_pos e j hj, getElem!_pos e i hi] at h4
    unfold ltInt at h4
    rw [decide_eq_false_iff_not] at h4
    rw [Array.getElem_toList, Array.getElem_toList]
    omega
theorem len_small (n : Nat) (h : n ≤ 17592186044416) : Lib.bitLen n < 4611686018427387904 := by
  rcases Nat.eq_zero_or_pos n with h0 | h0
  · rw [h0]; decide
  · have := len_pow n n (Nat.le_refl _) h0 (by omega)
    have h2 := Nat.lt_two_pow_self (n := Lib.bitLen n)
    omega
set_option maxRecDepth 100000 in
set_option maxHeartbeats 6400000 in
theorem sortAll (A : Option Addr) (n c : Nat) (w : World) (hn : n ≤ 17592186044416) {R : World → Prop} (hi : ∀ k : Nat, k < 4611686018427387904 → Calls Try.prog 94 #[.slice A n c, .int .i64 0, .int .i64 n, .int .i64 k] w fun e w' => e = .returned (.tuple #[]) ∧ R w') :
    Calls Try.prog 73 #[.slice A n c] w fun e w' => e = .returned (.tuple #[]) ∧ R w' := by
  have hL := len_small n hn
  have hp := hi (Lib.bitLen n) hL
  have hB := fun w => Try.bits_Len (n : Int) w (by omega) (by omega)
  simp only [Int.toNat_natCast] at hB
  clear hi hL
  go_enter Try.func73, Try.ntmps73
  go_wp2_with (first
    | (go_at_call 95; refine (hB _).mono ?_; rintro e w' ⟨rfl, rfl⟩)
    | (go_at_call 94; refine hp.mono ?_; rintro e w' ⟨rfl, hR⟩))
  go_end0
  exact ⟨rfl, hR⟩
theorem own_held {w w' : World} {base n g c : Nat} {cur : Array Value} (d : Array Int) (hb : base ≤ g) (hg : w.heap[g]? = some (.cells cur 29 (0, 0))) (hn : n ≤ c) (hc : c ≤ maxLen) (hs : cur.size = c) (hd : d.size = n) (hS : SameU g w w') (hH : Holds encW w' g 0 d) :
    w'.ownsRow base 29 1 (.slice (some ⟨g, 0, none⟩) n c) n (d.toList.map encW) := by
  obtain ⟨cur', hg', hs'⟩ := hS.2.2 cur _ _ hg
  refine ⟨by simp [hd], .inr ⟨g, c, cur', rfl, hb, hg', hn, hc, by rw [hs', hs, Nat.mul_one], ?_⟩⟩
  rw [Nat.mul_one]
  apply List.ext_getElem?
  intro k
  by_cases hk : k < n
  · rw [List.getElem?_take, if_pos hk, Array.getElem?_toList]
    have h1 := (hH k (by omega)).1
    rw [Nat.zero_add, Blk.cell (t := 29) hg' k] at h1
    rw [h1, List.getElem?_map, Array.getElem?_toList, Array.getElem?_eq_getElem (by omega), getElem!_pos d k (by omega)]
    rfl
  · rw [List.getElem?_take, if_neg hk, List.getElem?_eq_none (by simp; omega)]
theorem sortW_any {A : Option Addr} {n c base : Nat} {l : List Nat} {w : World} (ho : w.ownsRow base 29 1 (.slice A n c) n (ucells l)) (hn : n ≤ 1000000) (hb : base ≤ w.heap.size) :
    Calls Try.prog 73 #[.slice A n c] w fun e w' => e = .returned (.tuple #[]) ∧ ∃ l' : List Nat, l'.Perm l ∧ l'.Pairwise (· ≤ ·) ∧ w'.ownsRow base 29 1 (.slice A n c) n (ucells l') ∧ Go.RowKit.Below base w w' := by
  have hlen : l.length = n := by have := ho.1; simpa [ucells] using this
  rcases Nat.eq_zero_or_pos n with h0 | h0
  · exact sortU_any ho (by omega) hb
  refine sortAll A n c w (by omega) ?_
  intro k hk
  rcases ho.2 with ⟨_, h⟩ | ⟨g, cap, cur, hv, hbg, hg, hnc, hcm, hcs, htk⟩
  · omega
  · injection hv with hA _ hc
    subst hA
    subst hc
    obtain ⟨d, hd⟩ : ∃ d, d = (l.map Int.ofNat).toArray := ⟨_, rfl⟩
    have hds : d.size = n := by rw [hd]; simp [hlen]
    rw [Nat.mul_one] at htk hcs
    have hH : Holds encW w g 0 d := fun j hj => by
      have hc1 : cur[j]? = some (encW d[j]!) := by
        have h1 : (cur.toList.take n)[j]? = (ucells l)[j]? := by rw [htk]
        rw [List.getElem?_take_of_lt (by omega), Array.getElem?_toList] at h1
        rw [h1, ← ucells_enc, List.getElem?_map, getElem!_pos d j hj]
        have : (l.map Int.ofNat)[j]? = some d[j] := by
          subst hd
          rw [List.getElem_toArray, List.getElem?_eq_getElem]
        rw [this]
        rfl
      refine ⟨?_, ?_⟩
      · rw [Nat.zero_add, Blk.cell (t := 29) hg j]; exact hc1
      · rw [Nat.zero_add]; exact Blk.frozen (t := 29) hg j
    refine (pdqU g 0 c n (by omega) n 0 n k d w (by omega) hds (Nat.zero_le _) (Nat.le_refl _) hk (.inl rfl) hH (Blk.lt (t := 29) hg)).mono ?_
    rintro e w' ⟨rfl, e', ⟨hP, hS⟩, hK, hW⟩
    rw [← hlen, hd] at hP
    rw [← hlen] at hS
    obtain ⟨l', hp, hs, hz, he⟩ := sorted_nats l e' hP hS
    refine ⟨rfl, l', hp, hs, ?_, (Go.RowKit.Below.refl base w).grown hW.1 hb (fun k e => by cases e; exact hbg)⟩
    rw [← ucells_enc, ← he]
    exact own_held e' hbg hg hnc hcm hcs (by rw [hz, hlen]) hW hK
set_option maxRecDepth 100000 in
set_option maxHeartbeats 6400000 in
theorem hdistinctW (A : Option Addr) (n c : Nat) (l : List Nat) (w : World) (hr : Reads w w.heap.size 1 A n (ucells l)) (hn : n ≤ 1000000) :
    Calls Try.prog 37 #[.slice A n c] w fun e w' => e = .returned (.bool (decide l.Nodup)) ∧ Go.RowKit.Below w.heap.size w w' := by
  have hA : A = none → n = 0 := fun e => by
    rcases Nat.eq_zero_or_pos n with h | h
    · exact h
    · obtain ⟨ad, h1, _⟩ := hr.2 h
      rw [e] at h1
      cases h1
  have HR := Lib.hid hr
  clear hr
  go_enter Try.func37, Try.ntmps37
  go_wp2_with (first
    | (go_at_call 72; refine (cloneU_any c HR.out (by omega) hA).mono ?_; rintro e w1 ⟨A1, c1, rfl, ho1, hb1⟩)
    | (go_at_call 73; refine (sortW_any ho1 hn hb1.size).mono ?_; rintro e w2 ⟨rfl, l', hp, hs, ho2, hb2⟩)
    | (go_at_call 36; refine (frises_any A1 n c1 l' w2 (Reads.of_own ho2) (by omega)).mono ?_; rintro e w3 ⟨rfl, hb3⟩))
  go_ret
  exact ⟨by first | rfl | (rw [← asc_nodup hp hs]; rfl) | (rw [asc_nodup hp hs]; rfl), (hb1.trans hb2).trans (hb3.mono (Nat.le_trans hb1.size hb2.size))⟩
theorem distM : DistOK 1000000 := fun A n c l w hr hn => hdistinctW A n c l w hr hn
end Go.Proofs.Ytabhhccdbfjigaa
namespace Go.Proofs.Ytabhhccdbfjigaa
open Go.RowKit Go.ChangeShapes Go.WideShapes
set_option linter.unusedVariables false
set_option linter.unusedSimpArgs false

theorem lit_u32b {z : Int} (h : (Lit.int .u32 z).wf = true) : 0 ≤ z ∧ z ≤ 4294967295 := by
  simp [Lit.wf, IntKind.min, IntKind.max, IntKind.signed, IntKind.bits] at h
  omega
theorem lit_u64b {z : Int} (h : (Lit.int .u64 z).wf = true) : 0 ≤ z ∧ z ≤ 18446744073709551615 := by
  simp [Lit.wf, IntKind.min, IntKind.max, IntKind.signed, IntKind.bits] at h
  omega
section
variable {H : Type} {enc : TypeId × Value → H} {w : World} {base : Nat} {held : Bool}
set_option maxRecDepth 100000 in
theorem open_page {fuel : Nat} {cs : Array Value} {x : DataW H × List MemPlace} (h : DataW.trod enc Try.prog w base (fun _ => true) held fuel 40 cs.toList = some x) (hs : cs.size = 6) :
    ∃ (a0 a1 : Int) (a2 a3 a4 : Nat) (a5 : ByteArray), cs = #[.int .i64 a0, .int .i64 a1, .int .u32 a2, .int .u32 a3, .int .u64 a4, .string a5] ∧ a2 < 4294967296 ∧ a3 < 4294967296 ∧ a4 < 18446744073709551616 ∧ a5.size ≤ maxLen := by
  obtain ⟨xs, k', hk, hxy, _, hxl, hf⟩ := DataW.trod_struct Try.underlying40 h
  obtain ⟨cl⟩ := cs
  match xs, hxl, cl, hs with
  | [y0, y1, y2, y3, y4, y5], _, [v0, v1, v2, v3, v4, v5], _ =>
    have g0 := hf 0 _ rfl
    have g1 := hf 1 _ rfl
    have g2 := hf 2 _ rfl
    have g3 := hf 3 _ rfl
    have g4 := hf 4 _ rfl
    have g5 := hf 5 _ rfl
    have hone : ∀ t, t = 3 ∨ t = 29 ∨ t = 9 ∨ t = 28 → Try.prog.cellsOf t = 1 := by
      rintro t (rfl | rfl | rfl | rfl) <;> kernel_rfl
    simp [hone] at g0 g1 g2 g3 g4 g5
    obtain ⟨z0, hv0, _, hz0⟩ := DataW.trod_int Try.underlying3 g0
    obtain ⟨z1, hv1, _, hz1⟩ := DataW.trod_int Try.underlying3 g1
    obtain ⟨z2, hv2, _, hz2⟩ := DataW.trod_int Try.underlying29 g2
    obtain ⟨z3, hv3, _, hz3⟩ := DataW.trod_int Try.underlying29 g3
    obtain ⟨z4, hv4, _, hz4⟩ := DataW.trod_int Try.underlying28 g4
    obtain ⟨s5, hv5, _, hs5⟩ := DataW.trod_string Try.underlying9 g5
    simp at hv0 hv1 hv2 hv3 hv4 hv5
    subst hv0 hv1 hv2 hv3 hv4 hv5
    have b2 := lit_u32b hz2
    have b3 := lit_u32b hz3
    have b4 := lit_u64b hz4
    refine ⟨z0, z1, z2.toNat, z3.toNat, z4.toNat, s5, ?_, by omega, by omega, by omega, hs5⟩
    rw [show ((z2.toNat : Nat) : Int) = z2 by omega, show ((z3.toNat : Nat) : Int) = z3 by omega, show ((z4.toNat : Nat) : Int) = z4 by omega]
/-- A slice of strings that reads as the list l. -/
def Texts (w : World) (B : Nat) (A : Option Addr) (n : Nat) (l : List ByteArray) : Prop := Reads w B 1 A n (l.map Value.string) ∧ ∀ s ∈ l, s.size ≤ maxLen
theorem open_texts {fuel : Nat} {A : Option Addr} {n c : Nat} {x : DataW H × List MemPlace} (h : DataW.trod enc Try.prog w base (fun _ => true) held fuel 57 [.slice A n c] = some x) (_hw : ∀ m ∈ x.1.weights Try.prog 57, m ≤ reachBytes) :
    ∃ l, Texts w w.heap.size A n l ∧ n ≤ maxLen := by
  rcases open_strings Try.underlying57 Try.underlying9 (by kernel_rfl) h with ⟨hv, _⟩ | ⟨a, len, cap, ss, hv, _, hl, hm, hz, _, hcell, hsz⟩
  · simp at hv
    obtain ⟨rfl, rfl, rfl⟩ := hv
    exact ⟨[], ⟨Reads.none_, fun s hs => by simp at hs⟩, by simp [maxLen]⟩
  · simp at hv
    obtain ⟨rfl, rfl, rfl⟩ := hv
    have hss : ss.length = c := by simpa using hz
    refine ⟨ss.take n, ⟨⟨by simp; omega, fun hn => ⟨a, rfl, ?_, fun j u hu => ?_⟩⟩, fun s hs => hsz s (List.mem_of_mem_take hs)⟩, by omega⟩
    · have := World.block_lt_of_cell? w _ (hcell 0 (by omega))
      simpa [block_add] using this
    · have hj : j < n := by
        have := (List.getElem?_eq_some_iff.1 hu).1
        simp at this
        omega
      rw [hcell j (by omega), ← hu]
      have hjl : j < ss.length := by omega
      simp [hj, List.getD, hjl]
end
end Go.Proofs.Ytabhhccdbfjigaa
namespace Go.Proofs.Ytabhhccdbfjigaa
open Go.RowKit Go.ChangeShapes Go.WideShapes
open Go.Deep (open_slice choose_lt)
set_option linter.unusedVariables false
set_option linter.unusedSimpArgs false

instance : Inhabited Pg := ⟨Pg.zero⟩
/-- What is known of a page that came in. -/
def PgOk (b : Pg) : Prop := b.pg < 4294967296 ∧ b.lk < 4294967296 ∧ b.tx < 18446744073709551616 ∧ b.bd.size ≤ maxLen
/-- What is known of a slice of pages that came in. -/
def Pgs (w : World) (B : Nat) (A : Option Addr) (n c : Nat) (l : List Pg) : Prop := Reads w B 6 A n (pgcs l) ∧ n ≤ c ∧ c ≤ maxLen ∧ n ≤ 2932031007402 ∧ ∀ b, b ∈ l → PgOk b
section
variable {H : Type} {enc : TypeId × Value → H} {w : World} {base : Nat} {spare : Nat → Bool} {held : Bool}
theorem open_pgs {fuel : Nat} {A : Option Addr} {n c : Nat} {x : DataW H × List MemPlace} (h : DataW.trod enc Try.prog w base (fun _ => true) held fuel 24 [.slice A n c] = some x) (hw : ∀ m ∈ x.1.weights Try.prog 24, m ≤ reachBytes) :
    ∃ l, Pgs w w.heap.size A n c l := by
  rcases open_slice Try.underlying24 h with ⟨hv, _⟩ | ⟨a, len, cap, m, k, D, Pl, hv, hb, hl, hm, hmm, hx, hi⟩
  · simp at hv
    obtain ⟨rfl, rfl, rfl⟩ := hv
    exact ⟨[], Reads.none_, Nat.le_refl _, by simp [maxLen], by omega, by simp⟩
  simp at hv
  obtain ⟨rfl, rfl, rfl⟩ := hv
  have hmm : m = c := by simpa using hmm
  subst hmm
  have hce : Try.prog.cellsOf 40 = 6 := by kernel_rfl
  have hby : Try.prog.bytesOf 40 = 48 := by kernel_rfl
  have hn : n ≤ 2932031007402 := by
    have := hw (((List.range n).map D).length * 48 + ((List.range (m - n)).map fun j => D (n + j)).length * 48) (by
      rw [hx]
      simp [DataW.weights, Try.underlying24, hby, Nat.add_mul])
    rw [List.length_map, List.length_range] at this
    unfold reachBytes at this
    omega
  have each : ∀ i, i < n → ∃ q : Pg, (∀ j u, q.cells[j]? = some u → w.cell? ((a.add (i * 6)).add j) = some u) ∧ PgOk q ∧ a.block < w.heap.size := by
    intro i hin
    obtain ⟨cs', h1, h2⟩ := hi i (by omega)
    rw [hce] at h1
    obtain ⟨_, hlen, hcell⟩ := World.cells?_some h1
    obtain ⟨b0, b1, b2, b3, b4, b5, e, k2, k3, k4, k5⟩ := open_page (cs := cs'.toArray) (by simpa using h2) (by simpa using hlen)
    have e' : cs' = (⟨b0, b1, b2, b3, b4, b5⟩ : Pg).cells := by
      have := congrArg Array.toList e
      simpa [Pg.cells] using this
    refine ⟨⟨b0, b1, b2, b3, b4, b5⟩, fun j u hu => ?_, ⟨k2, k3, k4, k5⟩, ?_⟩
    · have hj : j < 6 := by
        have := (List.getElem?_eq_some_iff.1 hu).1
        rwa [Pg.cells_len] at this
      rw [hcell j hj, e']
      exact hu
    · have h0 := hcell 0 (by omega)
      rw [e'] at h0
      have := World.block_lt_of_cell? w _ h0
      simpa [block_add] using this
  obtain ⟨q, hq⟩ := choose_lt each
  have hlq : ((List.range n).map q).length = n := by simp
  refine ⟨(List.range n).map q, ⟨by rw [pgcs, rowsOf_length Pg.cells_len, hlq], fun h0 => ⟨a, rfl, (hq 0 (by omega)).2.2, fun j u hu => ?_⟩⟩, hl, hm, hn, fun b hb' => ?_⟩
  · have hj : j < n * 6 := by
      have h1 := (List.getElem?_eq_some_iff.1 hu).1
      rw [pgcs, rowsOf_length Pg.cells_len, hlq] at h1
      exact h1
    have hd : j / 6 < n := by omega
    have hg := rowsOf_get Pg.cells_len ((List.range n).map q) (j / 6) (j % 6) (q (j / 6)) (by simp [hd]) (by omega)
    rw [show j / 6 * 6 + j % 6 = j by omega] at hg
    have hu' : (q (j / 6)).cells[j % 6]? = some u := by rw [← hg]; exact hu
    have := (hq (j / 6) hd).1 (j % 6) u hu'
    rw [add_add, show j / 6 * 6 + j % 6 = j by omega] at this
    exact this
  · obtain ⟨i, hi', rfl⟩ := List.mem_map.1 hb'
    exact (hq i (List.mem_range.1 hi')).2.1
end
end Go.Proofs.Ytabhhccdbfjigaa
