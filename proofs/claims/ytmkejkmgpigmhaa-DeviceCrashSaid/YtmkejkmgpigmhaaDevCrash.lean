/-
  The walk of the statement DeviceCrash (what a crash leaves): from every start, at every argument, it returns true and changes no block that was there before.
-/
import Derived.Test.YtmkejkmgpigmhaaDevScript
import Derived.Deep.RegionHeld3
namespace Go.Proofs.Ytmkejkmgpigmhaa
open Go.RowKit
open Go.Lib hiding intOf
set_option linter.unusedVariables false
set_option linter.unusedSimpArgs false
attribute [local go_sem ↓] Go.wp_at_zero Go.wp_at_succ

/-- What a call that is no crash leaves of a state; what the first k calls leave. -/
def stp (S : DevS) (a : Act3) : DevS := if a.kind % 9 = 6 then S else nextS S a
def stAt (l : List Act3) (k : Nat) (S : DevS) : DevS := (l.take k).foldl stp S
theorem stAt_succ {l : List Act3} {k : Nat} {a : Act3} (h : l[k]? = some a) (S : DevS) : stAt l (k + 1) S = stp (stAt l k S) a := by
  unfold stAt
  have hk := (List.getElem?_eq_some_iff.1 h).1
  have e := (List.getElem?_eq_some_iff.1 h).2
  rw [List.take_succ_eq_append_getElem hk, List.foldl_append, e]
  rfl
theorem stp_ops (S : DevS) (a : Act3) : (stp S a).ops ≤ S.ops + 1 ∧ (stp S a).cap = S.cap := by
  unfold stp
  split
  · exact ⟨by omega, rfl⟩
  · exact nextS_ops S a
theorem stAt_ops {l : List Act3} {S : DevS} : ∀ k, k ≤ l.length → (stAt l k S).ops ≤ S.ops + k ∧ (stAt l k S).cap = S.cap
  | 0, _ => ⟨Nat.le_refl _, rfl⟩
  | k + 1, h => by
    have ih := stAt_ops (l := l) (S := S) k (by omega)
    have e : l[k]? = some l[k] := List.getElem?_eq_getElem (by omega)
    rw [stAt_succ e]
    have := stp_ops (stAt l k S) l[k]
    exact ⟨by omega, this.2.trans ih.2⟩
def dev20 (s : ByteArray) : DevS := ⟨128, 20, s.data.toList, s.data.toList, [], -1, 0⟩
/-- The cells of an array of three pointers, the first i of them set. -/
def arrP (G : Nat → Nat) (i : Nat) : Array Value := #[.pointer (if 0 < i then some ⟨G 0, 0, none⟩ else none), .pointer (if 1 < i then some ⟨G 1, 0, none⟩ else none), .pointer (if 2 < i then some ⟨G 2, 0, none⟩ else none)]
/-- i devices of one state, apart from each other, beside the two arrays. -/
structure ThreeAt (w : World) (bd br : Nat) (Sn : DevS) (i : Nat) (wr : World) (G : Nat → Nat) (FF : Nat → Nat → Prop) (cs : Array Value) : Prop where
  arr : Blk wr bd 52 (arrP G i)
  arr2 : Blk wr br 53 cs
  cs3 : cs.size = 3
  dev : ∀ j, j < i → Dev wr (FF j) (G j) Sn
  ge : ∀ j, j < i → ∀ k, FF j k → w.heap.size ≤ k ∧ k ≠ bd ∧ k ≠ br
  dis : ∀ j j', j < j' → j' < i → ∀ k, FF j k → ¬ FF j' k
  gd : w.heap.size ≤ bd
  gr : w.heap.size ≤ br
  ne : bd ≠ br
  bel : Below w.heap.size w wr
  fair : 0 < i → Fair Sn
def Three (w : World) (bd br : Nat) (Sn : DevS) (i : Nat) (wr : World) : Prop := ∃ G FF cs, ThreeAt w bd br Sn i wr G FF cs

/-- A device and its reference within a round. -/
def PairAt (g o : Nat) (S : DevS) (wr wq : World) : Prop := ∃ F R, Both wq F R g o S ∧ (∀ k, F k → wr.heap.size ≤ k) ∧ (∀ k, R k → wr.heap.size ≤ k) ∧ Below wr.heap.size wr wq
theorem arrP_cell (G : Nat → Nat) {i j : Nat} (hj : j < 3) : (arrP G i)[j]? = some (.pointer (if j < i then some ⟨G j, 0, none⟩ else none)) := by
  rcases j with _ | _ | _ | j
  · rfl
  · rfl
  · rfl
  · omega
theorem arrP_set (G : Nat → Nat) {i g : Nat} (hi : i < 3) : (arrP G i).setIfInBounds i (.pointer (some ⟨g, 0, none⟩)) = arrP (fun j => if j = i then g else G j) (i + 1) := by
  rcases i with _ | _ | _ | i
  · rfl
  · rfl
  · rfl
  · omega

theorem ThreeAt.push {w wo wr : World} {bd br j g o : Nat} {Sn : DevS} {G : Nat → Nat} {FF : Nat → Nat → Prop} {cs : Array Value} (h3 : ThreeAt w bd br Sn j wo G FF cs) (hj : j < 3) {F R : Nat → Prop} (hbo : Both wr F R g o Sn) (hF : ∀ k, F k → wo.heap.size ≤ k) (hbq : Below wo.heap.size wo wr) :
    Three w bd br Sn (j + 1) ((wr.setCell ⟨bd, j, none⟩ (.pointer (some ⟨g, 0, none⟩))).setCell ⟨br, j, none⟩ (.pointer (some ⟨o, 0, none⟩))) := by
  have l1 := h3.arr.lt
  have l2 := h3.arr2.lt
  have lw := h3.bel.size
  have hq1 : Blk wr bd 52 (arrP G j) := h3.arr.below hbq l1
  have hq2 : Blk wr br 53 cs := h3.arr2.below hbq l2
  have hk : Kept (fun k => k = bd ∨ k = br) wr ((wr.setCell ⟨bd, j, none⟩ (.pointer (some ⟨g, 0, none⟩))).setCell ⟨br, j, none⟩ (.pointer (some ⟨o, 0, none⟩))) :=
    ((Kept.refl _ wr).setCell (p := ⟨bd, j, none⟩) (.inl (.inl rfl)) _).setCell (p := ⟨br, j, none⟩) (.inl (.inr rfl)) _
  refine ⟨fun i => if i = j then g else G i, fun i => if i = j then F else FF i, cs.setIfInBounds j (.pointer (some ⟨o, 0, none⟩)), ?_, ?_, by simpa using h3.cs3, fun i hi => ?_, fun i hi k hk' => ?_, fun i i' hii hi' k hk' => ?_, h3.gd, h3.gr, h3.ne, ?_, fun _ => hbo.fair⟩
  · have := (hq1.set_ j (.pointer (some ⟨g, 0, none⟩))).far (p := ⟨br, j, none⟩) h3.ne (.pointer (some ⟨o, 0, none⟩))
    rw [arrP_set G hj] at this
    exact this
  · exact (hq2.far (p := ⟨bd, j, none⟩) (Ne.symm h3.ne) _).set_ j _
  · by_cases e : i = j
    · simp only [if_pos e]
      exact hbo.dev.kept hk fun k hf hh => by have := hF k hf; rcases hh with hh | hh <;> omega
    · simp only [if_neg e]
      have hd := (h3.dev i (by omega)).new hbq
      exact hd.kept hk fun k hf hh => by have := h3.ge i (by omega) k hf; rcases hh with hh | hh <;> omega
  · by_cases e : i = j
    · simp only [if_pos e] at hk'
      have := hF k hk'
      omega
    · simp only [if_neg e] at hk'
      exact h3.ge i (by omega) k hk'
  · have hne : i ≠ j := by omega
    simp only [if_neg hne] at hk'
    by_cases e : i' = j
    · simp only [if_pos e]
      intro hf
      have h1 := hF k hf
      have h2 := (h3.dev i (by omega)).lt k hk'
      omega
    · simp only [if_neg e]
      exact h3.dis i i' hii (by omega) k hk'
  · exact ((h3.bel.trans (hbq.mono lw)).setCell (p := ⟨bd, j, none⟩) h3.gd _).setCell (p := ⟨br, j, none⟩) h3.gr _

/-- Three devices apart from each other, and the array that leads to them. -/
structure D3 (w : World) (bd g0 g1 g2 : Nat) (F0 F1 F2 : Nat → Prop) (S0 S1 S2 : DevS) (wx : World) : Prop where
  arr : Blk wx bd 52 #[.pointer (some ⟨g0, 0, none⟩), .pointer (some ⟨g1, 0, none⟩), .pointer (some ⟨g2, 0, none⟩)]
  d0 : Dev wx F0 g0 S0
  d1 : Dev wx F1 g1 S1
  d2 : Dev wx F2 g2 S2
  n0 : ∀ k, F0 k → ¬ F1 k ∧ ¬ F2 k ∧ k ≠ bd ∧ w.heap.size ≤ k
  n1 : ∀ k, F1 k → ¬ F2 k ∧ k ≠ bd ∧ w.heap.size ≤ k
  n2 : ∀ k, F2 k → k ≠ bd ∧ w.heap.size ≤ k
  bel : Below w.heap.size w wx
section
variable {w wx wy : World} {bd g0 g1 g2 : Nat} {F0 F1 F2 : Nat → Prop} {S0 S1 S2 S' : DevS}
theorem D3.new (h : D3 w bd g0 g1 g2 F0 F1 F2 S0 S1 S2 wx) (hb : Below wx.heap.size wx wy) : D3 w bd g0 g1 g2 F0 F1 F2 S0 S1 S2 wy :=
  ⟨h.arr.below hb h.arr.lt, h.d0.new hb, h.d1.new hb, h.d2.new hb, h.n0, h.n1, h.n2, h.bel.trans (hb.mono h.bel.size)⟩
theorem D3.step0 (h : D3 w bd g0 g1 g2 F0 F1 F2 S0 S1 S2 wx) (hd : Dev wy (Grow F0 wx wy) g0 S') (hk : Kept F0 wx wy) : D3 w bd g0 g1 g2 (Grow F0 wx wy) F1 F2 S' S1 S2 wy := by
  have lb := h.arr.lt
  have lw := h.bel.size
  refine ⟨hk.blk h.arr fun hf => (h.n0 _ hf).2.2.1 rfl, hd, h.d1.kept hk fun k h1 h0 => (h.n0 k h0).1 h1, h.d2.kept hk fun k h2 h0 => (h.n0 k h0).2.1 h2, ?_, h.n1, h.n2, h.bel.trans (hk.below (fun k hf => (h.n0 k hf).2.2.2) lw)⟩
  rintro k (hf | ⟨hf, _⟩)
  · exact h.n0 k hf
  · exact ⟨fun h1 => by have := h.d1.lt k h1; omega, fun h2 => by have := h.d2.lt k h2; omega, by omega, by omega⟩
theorem D3.step1 (h : D3 w bd g0 g1 g2 F0 F1 F2 S0 S1 S2 wx) (hd : Dev wy (Grow F1 wx wy) g1 S') (hk : Kept F1 wx wy) : D3 w bd g0 g1 g2 F0 (Grow F1 wx wy) F2 S0 S' S2 wy := by
  have lb := h.arr.lt
  have lw := h.bel.size
  refine ⟨hk.blk h.arr fun hf => (h.n1 _ hf).2.1 rfl, h.d0.kept hk fun k h0 h1 => (h.n0 k h0).1 h1, hd, h.d2.kept hk fun k h2 h1 => (h.n1 k h1).1 h2, ?_, ?_, h.n2, h.bel.trans (hk.below (fun k hf => (h.n1 k hf).2.2) lw)⟩
  · intro k h0
    refine ⟨?_, (h.n0 k h0).2⟩
    rintro (hf | ⟨hf, _⟩)
    · exact (h.n0 k h0).1 hf
    · have := h.d0.lt k h0
      omega
  · rintro k (hf | ⟨hf, _⟩)
    · exact h.n1 k hf
    · exact ⟨fun h2 => by have := h.d2.lt k h2; omega, by omega, by omega⟩
theorem D3.step2 (h : D3 w bd g0 g1 g2 F0 F1 F2 S0 S1 S2 wx) (hd : Dev wy (Grow F2 wx wy) g2 S') (hk : Kept F2 wx wy) : D3 w bd g0 g1 g2 F0 F1 (Grow F2 wx wy) S0 S1 S' wy := by
  have lb := h.arr.lt
  have lw := h.bel.size
  refine ⟨hk.blk h.arr fun hf => (h.n2 _ hf).1 rfl, h.d0.kept hk fun k h0 h2 => (h.n0 k h0).2.1 h2, h.d1.kept hk fun k h1 h2 => (h.n1 k h1).1 h2, hd, ?_, ?_, ?_, h.bel.trans (hk.below (fun k hf => (h.n2 k hf).2) lw)⟩
  · intro k h0
    refine ⟨(h.n0 k h0).1, ?_, (h.n0 k h0).2.2⟩
    rintro (hf | ⟨hf, _⟩)
    · exact (h.n0 k h0).2.1 hf
    · have := h.d0.lt k h0
      omega
  · intro k h1
    refine ⟨?_, (h.n1 k h1).2⟩
    rintro (hf | ⟨hf, _⟩)
    · exact (h.n1 k h1).1 hf
    · have := h.d1.lt k h1
      omega
  · rintro k (hf | ⟨hf, _⟩)
    · exact h.n2 k hf
    · exact ⟨by omega, by omega⟩
theorem ThreeAt.d3 {Sn : DevS} {br : Nat} {G : Nat → Nat} {FF : Nat → Nat → Prop} {cs : Array Value} (h : ThreeAt w bd br Sn 3 wx G FF cs) : D3 w bd (G 0) (G 1) (G 2) (FF 0) (FF 1) (FF 2) Sn Sn Sn wx :=
  ⟨h.arr, h.dev 0 (by omega), h.dev 1 (by omega), h.dev 2 (by omega), fun k hk => ⟨h.dis 0 1 (by omega) (by omega) k hk, h.dis 0 2 (by omega) (by omega) k hk, (h.ge 0 (by omega) k hk).2.1, (h.ge 0 (by omega) k hk).1⟩,
    fun k hk => ⟨h.dis 1 2 (by omega) (by omega) k hk, (h.ge 1 (by omega) k hk).2.1, (h.ge 1 (by omega) k hk).1⟩, fun k hk => ⟨(h.ge 2 (by omega) k hk).2.1, (h.ge 2 (by omega) k hk).1⟩, h.bel⟩
theorem Dev.few {F : Nat → Prop} {g : Nat} {S : DevS} (h : Dev w F g S) : S.pend.length ≤ S.ops := by
  obtain ⟨m1, m2, A1, n1, c1, A2, n2, c2, A3, n3, c3, X, pc, h⟩ := h
  exact h.few
end
/-- The numbers below pn, down to m. -/
def desc (pn m : Nat) : List Int := (List.range (pn - m)).map fun i => ((pn - 1 - i : Nat) : Int)
theorem desc_len (pn m : Nat) : (desc pn m).length = pn - m := by simp [desc]
theorem desc_snoc {pn m : Nat} (h : m + 1 ≤ pn) : desc pn m = desc pn (m + 1) ++ [(m : Int)] := by
  unfold desc
  rw [show pn - m = (pn - (m + 1)) + 1 by omega, List.range_succ, List.map_append]
  simp
  omega
theorem desc_has {pn j : Nat} (h : j < pn) : (desc pn 0).contains (j : Int) = true := by
  rw [List.contains_iff_exists_mem_beq]
  refine ⟨(j : Int), List.mem_map.2 ⟨pn - 1 - j, List.mem_range.2 (by omega), by omega⟩, by simp⟩
theorem reads_new3 (w : World) (cs : Array Value) (t : TypeId) (fr : Nat × Nat) : Reads (w.alloc (.cells cs t fr)) (w.heap.size + 1) 1 (some ⟨w.heap.size, 0, none⟩) cs.size cs.toList := by
  refine ⟨by simp, fun _ => ⟨_, rfl, Nat.lt_succ_self _, fun j u hu => ?_⟩⟩
  have e : (⟨w.heap.size, 0, none⟩ : Addr).add j = ⟨w.heap.size, j, none⟩ := by unfold Addr.add; split <;> simp_all
  rw [e, World.cell?_alloc_mark]
  simpa using hu
/-- What a crash leaves behind a synchronisation, whatever is kept. -/
theorem synced_img (S : DevS) (keep : List Int) : keepUp (syS { S with fuse := -1 }).size keep (syS { S with fuse := -1 }).pend (syS { S with fuse := -1 }).dur (syS { S with fuse := -1 }).pend.length = S.img := by
  unfold syS
  rw [if_neg (show ¬ (-1 : Int) = 0 by decide)]
  rfl
/-- The list of all pending numbers, under way. -/
def AllAt (pn m : Nat) (v : Value) (w6 wq : World) : Prop := wq.ownsRow w6.heap.size 3 1 v (pn - m) ((desc pn m).map (Value.int .i64)) ∧ Below w6.heap.size w6 wq

set_option maxHeartbeats 6400000 in
set_option maxRecDepth 100000 in
theorem crash_walk (s : ByteArray) (A : Option Addr) (n c : Nat) (l : List Act3) (a' : Option Addr) (len' cap' : Nat) (ks : List Int) (w : World) (hs : s.size ≤ maxLen) (hl : Acts w w.heap.size A n l) (hn : n ≤ maxLen) (hz' : IsRow .i64 w a' len' cap' ks) :
    Calls Try.prog 5 #[.string s, .slice A n c, .slice a' len' cap'] w fun e w' => e = .returned (.bool true) ∧ Below w.heap.size w w' := by
  have HL := Lib.hid hl
  have HN := Lib.hid hn
  have HSZ := Lib.hid hs
  have HK := Lib.hid hz'.reads.1
  clear hl hn hs hz'
  go_enter Try.func5, Try.ntmps5
  go_wp2_with fail
  refine (lives_any w).mono ?_
  rintro e w1 ⟨rfl, hb1⟩
  have hli := light_any c s ((HL.out.below hb1).more hb1.size) HN.out
  go_wp2_with fail
  refine hli.mono ?_
  rintro e w2 ⟨b, rfl, hbt, hb2⟩
  have hb12 : Below w.heap.size w w2 := hb1.trans (hb2.mono hb1.size)
  have HBT := Lib.hid hbt
  have HB := Lib.hid hb12
  clear hbt hb12 hb1 hb2 hli
  cases b with
  | false =>
    go_wp2_with fail
    go_ret
    exact ⟨rfl, HB.out⟩
  | true =>
    obtain ⟨hs1, hn1⟩ := HBT.out rfl
    by_cases hg : 100 < len'
    · have g1 : (100 : Int) < len' := by omega
      go_wp2_with fail
      go_ret
      exact ⟨rfl, HB.out⟩
    have g1 : ¬ (100 : Int) < len' := by omega
    clear hg HBT
    go_wp2_with fail
    have hst : Three w w2.heap.size (w2.heap.size + 1) (stAt l n (dev20 s)) 0 ((w2.alloc (.cells #[.pointer none, .pointer none, .pointer none] 52)).alloc (.cells #[.pointer none, .pointer none, .pointer none] 53)) := by
      have z2 := HB.out.size
      refine ⟨fun _ => 0, fun _ _ => False, #[.pointer none, .pointer none, .pointer none], ?_⟩
      refine ⟨(Blk.new w2 _ _).alloc _, ?_, rfl, fun j hj => absurd hj (Nat.not_lt_zero _), fun j hj => absurd hj (Nat.not_lt_zero _), fun j j' _ hj => absurd hj (Nat.not_lt_zero _), z2, Nat.le_succ_of_le z2, by omega, (HB.out.alloc z2 _).alloc (by simp; omega) _, fun h => absurd h (Nat.not_lt_zero _)⟩
      have := Blk.new (w2.alloc (.cells #[.pointer none, .pointer none, .pointer none] 52)) 53 #[.pointer none, .pointer none, .pointer none]
      simpa using this
    have HST := Lib.hid hst
    clear hst
    go_loopw [9] (fun i wr => ∃ j : Nat, j ≤ 3 ∧ i = .int .i64 j ∧ Hid (Three w w2.heap.size (w2.heap.size + 1) (stAt l n (dev20 s)) j wr)) (fun i _ => 3 - (RowKit.intOf i).toNat)
    case atStart => exact ⟨0, Nat.zero_le _, rfl, HST⟩
    case round =>
      clear HST
      obtain ⟨j, hj, rfl, HST⟩ := hrel
      obtain ⟨wo, hwo⟩ : ∃ wo, wo = wr := ⟨_, rfl⟩
      subst hwo
      obtain ⟨G, FF, cs, h3⟩ := HST.out
      by_cases hj3 : j < 3
      · have hfit : s.size / 128 ≤ 20 := by omega
        have dn := dnew_ok 128 20 s wo (by decide) (by decide) (by decide) hfit
        have HFIT := Lib.hid hfit
        have H3 := Lib.hid h3
        have b0 : (0 : Int) ≤ j := by omega
        have b1 : (j : Int) < 3 := by omega
        clear hfit h3
        go_wp2_with fail
        refine dn.mono ?_
        rintro e w3 ⟨g, rfl, hd3, hb3⟩
        go_wp2_with fail
        refine (rnew_ok 20 s w3 (by decide) (by decide) HFIT.out).mono ?_
        rintro e w4 ⟨o, rfl, hr4, hog, hb4⟩
        have hpa : PairAt g o (stAt l 0 (dev20 s)) wo w4 := by
          have z3 := hb3.size
          refine ⟨_, _, ⟨hd3.new hb4, hr4, ?_, ⟨rfl, rfl, by show -9223372036854775808 ≤ (-1 : Int); decide, by show (-1 : Int) ≤ 9223372036854775807; decide, by show 0 ≤ 4294967296; decide⟩⟩, ?_, ?_, hb3.trans (hb4.mono z3)⟩
          · rintro k ⟨_, h1⟩ h2
            omega
          · rintro k ⟨h1, _⟩
            exact h1
          · rintro k h1
            omega
        have HPA := Lib.hid hpa
        clear hpa hd3 hb3 hr4 hog hb4 dn HFIT
        go_wp2_with fail
        go_loopw [14] (fun k wq => ∃ m : Nat, m ≤ n ∧ k = .int .i64 m ∧ Hid (PairAt g o (stAt l m (dev20 s)) wo wq)) (fun k _ => n - (RowKit.intOf k).toNat)
        case atStart => exact ⟨0, Nat.zero_le _, rfl, HPA⟩
        case round =>
          clear HPA
          obtain ⟨m, hm, rfl, HPA⟩ := hrel
          obtain ⟨F, R, hbo, hF, hR, hbq⟩ := HPA.out
          have hww := H3.out.bel.size
          have hwq : Below w.heap.size w wr := H3.out.bel.trans (hbq.mono hww)
          by_cases hlt : m < n
          · obtain ⟨ad, a, rfl, hab, ha, hat, hok⟩ := (HL.out.below hwq).at_ hlt
            obtain ⟨c0, c1, c2, c3, c4⟩ := hat
            have hsu := stAt_succ ha (dev20 s)
            have hso := stAt_ops (l := l) (S := dev20 s) m (by rw [HL.out.1]; omega)
            have hso1 : (stAt l m (dev20 s)).ops + 1 ≤ 4294967296 := by
              have h0 : (dev20 s).ops = 0 := rfl
              omega
            have m0 : (0 : Int) ≤ m := by omega
            have m1 : (m : Int) < n := by omega
            by_cases h6 : a.kind % 9 = 6
            · have pk := pick9 h6
              have e6 : stAt l (m + 1) (dev20 s) = stAt l m (dev20 s) := by rw [hsu]; unfold stp; rw [if_pos h6]
              have HE := Lib.hid e6
              clear e6 hsu h6 hso ha
              go_wp2_with (go_at_call 31; refine (pk _).mono ?_; rintro e w' ⟨rfl, rfl⟩)
              go_roundw
              case rel => exact ⟨m + 1, by omega, by go_num, by rw [HE.out]; exact HPA⟩
              case measure => simp [RowKit.intOf]; omega
            · obtain ⟨q, hq⟩ : ∃ q, a.kind % 9 = q := ⟨_, rfl⟩
              have pk := pick9 hq
              have e6 : stAt l (m + 1) (dev20 s) = nextS (stAt l m (dev20 s)) a := by rw [hsu]; unfold stp; rw [if_neg h6]
              have q6 : (q == (6 : Int)) = false := by rw [← hq]; simpa using h6
              have q6' : (q != (6 : Int)) = true := by rw [← hq]; simpa using h6
              have hda := does_any hbo hso1 a (B := w.heap.size) hwq.size (fun k hk => Nat.le_trans hww (hF k hk)) hok
              rw [← e6] at hda
              have HO := Lib.hid hq
              clear e6 hsu h6 hso ha hq
              go_wp2_with (first | (go_at_call 31; refine (pk _).mono ?_; rintro e w' ⟨rfl, rfl⟩) | (go_at_call 29; refine hda.mono ?_; rintro e w5 ⟨rfl, hth⟩))
              go_roundw
              case rel =>
                refine ⟨m + 1, by omega, by go_num, ?_⟩
                obtain ⟨F', R', hbo', hF', hR', hkept⟩ := hth
                have hbq5 : Below wo.heap.size wo w5 := hbq.trans (hkept.below (fun k hk => by rcases hk with hk | hk; exact hF k hk; exact hR k hk) hbq.size)
                refine Lib.hid ⟨F', R', hbo', fun k hk => ?_, fun k hk => ?_, hbq5⟩
                · rcases hF' k hk with h | h
                  · exact hF k h
                  · exact Nat.le_trans hbq.size h
                · rcases hR' k hk with h | h
                  · exact hR k h
                  · exact Nat.le_trans hbq.size h
              case measure => simp [RowKit.intOf]; omega
          · obtain rfl : m = n := by omega
            have hq1 : Blk wr w2.heap.size 52 (arrP G j) := H3.out.arr.below hbq H3.out.arr.lt
            have hq2 : Blk wr (w2.heap.size + 1) 53 cs := H3.out.arr2.below hbq H3.out.arr2.lt
            have f1 : wr.frozen? ⟨w2.heap.size, j, none⟩ = false := hq1.frozen j
            have f2 : wr.frozen? ⟨w2.heap.size + 1, j, none⟩ = false := hq2.frozen j
            have a1 : wr.cell? ⟨w2.heap.size, j, none⟩ = some (.pointer (if j < j then some ⟨G j, 0, none⟩ else none)) := (hq1.cell j).trans (arrP_cell G hj3)
            rw [if_neg (Nat.lt_irrefl j)] at a1
            have hj3' : j < cs.size := by rw [H3.out.cs3]; exact hj3
            obtain ⟨u2, hu2⟩ : ∃ u2, cs[j]? = some u2 := ⟨cs[j], by simp [hj3']⟩
            have a2 : wr.cell? ⟨w2.heap.size + 1, j, none⟩ = some u2 := (hq2.cell j).trans hu2
            have HBO := Lib.hid hbo
            have HQ1 := Lib.hid hq1
            have HQ2 := Lib.hid hq2
            have HFF := Lib.hid hF
            have HWQ := Lib.hid hwq
            have HBQ := Lib.hid hbq
            clear hu2 hbo hq1 hq2 hF hR hwq hbq hj3'
            go_wp2_with fail
            go_roundw
            case rel =>
              exact ⟨j + 1, by omega, by go_num, Lib.hid (H3.out.push hj3 HBO.out HFF.out HBQ.out)⟩
            case measure => simp [RowKit.intOf]; omega
      · obtain rfl : j = 3 := by omega
        have hd3 := h3.d3
        have hfair := h3.fair (by omega)
        have hopn := stAt_ops (l := l) (S := dev20 s) n (by rw [HL.out.1]; omega)
        obtain ⟨Sn, hSn⟩ : ∃ Sn, Sn = stAt l n (dev20 s) := ⟨_, rfl⟩
        rw [← hSn] at hd3 hfair hopn
        have hops : Sn.ops ≤ 30 := by
          have h0 : (dev20 s).ops = 0 := rfl
          omega
        obtain ⟨pn, hpn⟩ : ∃ pn, pn = Sn.pend.length := ⟨_, rfl⟩
        have hpl : pn ≤ 30 := by have := hd3.d0.few; omega
        obtain ⟨D, hD⟩ : ∃ D : ByteArray, Sn.dur = D.data.toList := ⟨⟨Sn.dur.toArray⟩, by simp⟩
        obtain ⟨I, hI⟩ : ∃ I : ByteArray, Sn.img = I.data.toList := ⟨⟨Sn.img.toArray⟩, by simp⟩
        have hdw := hd3.new (Below.refl _ _).drew
        have q0 : wo.drew.cell? ⟨w2.heap.size, 0, none⟩ = some (.pointer (some ⟨G 0, 0, none⟩)) := hdw.arr.cell 0
        have hDu := durable_is hdw.d0 hD
        have HD3 := Lib.hid hd3
        have HDW := Lib.hid hdw
        have HFAIR := Lib.hid hfair
        have HPN := Lib.hid hpn
        have HD := Lib.hid hD
        have HI := Lib.hid hI
        have HSN := Lib.hid hSn
        clear hopn hd3 hdw hfair hpn hD hI hSn h3 HST
        go_wp2_with fail
        go_region_held3 (fun w' => w'.cell? ⟨w2.heap.size, 0, none⟩ = some (.pointer (some ⟨G 0, 0, none⟩)))
          (first | exact s0 | exact r0 | exact q0)
          (first
            | (go_at_call 20
               (with_reducible refine hDu.mono ?_)
               rintro e w5 ⟨rfl, hb5⟩
               have hdv := HDW.out.new hb5
               have r0 : w5.cell? ⟨w2.heap.size, 0, none⟩ = some (.pointer (some ⟨G 0, 0, none⟩)) := hdv.arr.cell 0
               have hIm := image_is hdv.d0 HI.out)
            | (go_at_call 18
               (with_reducible refine hIm.mono ?_)
               rintro e w6 ⟨rfl, hb6⟩
               have hdv6 := hdv.new hb6
               have s0 : w6.cell? ⟨w2.heap.size, 0, none⟩ = some (.pointer (some ⟨G 0, 0, none⟩)) := hdv6.arr.cell 0))
        have s1 : w6.cell? ⟨w2.heap.size, 1, none⟩ = some (.pointer (some ⟨G 1, 0, none⟩)) := hdv6.arr.cell 1
        have hPe := pending_is hdv6.d1 HPN.out.symm
        have HDV := Lib.hid hdv6
        clear hdv6 hdv hIm hDu q0 r0 s0
        go_wp2_with fail
        refine hPe.mono ?_
        rintro e w' ⟨rfl, rfl⟩
        clear s1 hPe
        have hal : AllAt pn pn (.slice none 0 0) w6 w6 := by
          refine ⟨?_, Below.refl _ _⟩
          rw [show desc pn pn = [] by simp [desc], Nat.sub_self]
          exact World.ownsRow_nil _ _ _ _
        have HAL := Lib.hid hal
        clear hal
        go_wp2_with fail
        obtain ⟨i0, hi0, hz0, hz1, hz2⟩ := info_parts infoInt
        have H0 := Lib.hid hi0
        have H1 := Lib.hid hz0
        have H2 := Lib.hid hz1
        have H5 := Lib.hid hz2
        clear hi0 hz0 hz1 hz2
        go_loopw [17, 18] (fun al i wq => ∃ (m k : Nat) (A1 : Option Addr) (c1 : Nat), m + k ≤ pn ∧ pn ≤ m + k ∧ i = .int .i64 m ∧ al = .slice A1 k c1 ∧ Hid (AllAt pn m (.slice A1 k c1) w6 wq)) (fun _ i _ => (RowKit.intOf i).toNat)
        case atStart => exact ⟨pn, 0, none, 0, Nat.le_refl _, Nat.le_refl _, rfl, rfl, HAL⟩
        case round =>
          clear HAL
          obtain ⟨m, k, A1, c1, hm, hm', rfl, rfl, HAL⟩ := hrel
          obtain ⟨hown, hbq⟩ := HAL.out
          rw [show pn - m = k by omega] at hown
          by_cases h0 : 0 < m
          · obtain ⟨m1, hm1⟩ : ∃ m1, m = m1 + 1 := ⟨m - 1, by omega⟩
            have e1 : (m : Int) - 1 = (m1 : Int) := by omega
            have hm2 : m1 < m := by omega
            have hm3 : m ≤ m1 + 1 := by omega
            have HO := Lib.hid hown
            have HBQ := Lib.hid hbq
            have HM := Lib.hid hm1
            clear hown hbq hm1
            go_wp2_with (at_builtin; refine wpList_append_any _ rfl (.tmp 97) (.tmp 100) _ rfl w6.heap.size 3 i0 _ 1 8 Try.underlying38 H0.out H1.out H2.out H5.out rfl (by omega) (.slice A1 k c1) k _ rfl (HO.out.alloc _) (wr.heap.size + 1) (some ⟨wr.heap.size, 0, none⟩) 1 1 [.int .i64 m1] rfl (reads_new3 wr #[.int .i64 m1] 3 (0, 0)) (by intro u hu; simp at hu; subst hu; rfl) (by unfold maxLen; omega) (by omega) (by have := HBQ.out.size; simp; omega) ?_; intro v2 w7 hown2 hg2 hat2)
            have hal7 : AllAt pn m1 v2 w6 w7 := by
              have hm1 := HM.out
              refine ⟨?_, (HBQ.out.alloc HBQ.out.size _).grown hg2 (by simp; exact Nat.le_succ_of_le HBQ.out.size) (fun k hk => (HO.out.lt k hk).1)⟩
              have := hown2
              rw [show k + 1 = pn - m1 by omega] at this
              rw [desc_snoc (by omega), List.map_append, ← hm1]
              exact this
            obtain ⟨A2, c2, hv2, _⟩ := own_form hown2
            subst hv2
            have HAL7 := Lib.hid hal7
            clear hal7 hown2 hg2 hat2
            go_wp2_with fail
            go_roundw
            case rel => exact ⟨m1, k + 1, A2, c2, by omega, by omega, rfl, rfl, HAL7⟩
            case measure => simp [RowKit.intOf]; omega
          · obtain rfl : m = 0 := by omega
            obtain rfl : k = pn := by omega
            have hqx := HDV.out.new hbq
            have p0 : wr.cell? ⟨w2.heap.size, 0, none⟩ = some (.pointer (some ⟨G 0, 0, none⟩)) := hqx.arr.cell 0
            have hops' : Sn.ops ≤ 4294967296 := by omega
            have c0 := dcrash_any hqx.d0 hops' (Ak := none) (nk := 0) 0 (keep := []) Reads.none_ (by simp [maxLen]) (fun a h => by cases h)
            have HO := Lib.hid hown
            have HBQ := Lib.hid hbq
            have HQX := Lib.hid hqx
            clear hown hbq hqx
            go_wp2_with fail
            refine c0.mono ?_
            rintro e w8 ⟨rfl, hd8, hk8⟩
            have h8 := HQX.out.step0 hd8 hk8
            have p1 : w8.cell? ⟨w2.heap.size, 1, none⟩ = some (.pointer (some ⟨G 1, 0, none⟩)) := h8.arr.cell 1
            have hown8 := hk8.own HO.out (fun b hb hf => by
              have h1 := (HO.out.lt b hb).1
              have h2 := HDV.out.d0.lt b hf
              omega)
            have c1' := dcrash_any h8.d1 hops' c1 (Reads.of_own hown8) (by unfold maxLen; omega) (fun a ha hf => by
              subst ha
              have h1 := (HO.out.lt a.block rfl).1
              have h2 := HDV.out.d1.lt a.block hf
              omega)
            have H8 := Lib.hid h8
            clear h8 hown8 hd8 hk8 c0 p0
            go_wp2_with fail
            refine c1'.mono ?_
            rintro e w9 ⟨rfl, hd9, hk9⟩
            have h9 := H8.out.step1 hd9 hk9
            have p2 : w9.cell? ⟨w2.heap.size, 2, none⟩ = some (.pointer (some ⟨G 2, 0, none⟩)) := h9.arr.cell 2
            have cf := dfuse_any h9.d2 (-1)
            have H9 := Lib.hid h9
            clear h9 hd9 hk9 c1' p1
            go_wp2_with fail
            refine cf.mono ?_
            rintro e w10 ⟨rfl, hd10, hk10⟩
            have h10 := H9.out.step2 (hd10.wide (fun k hk => Or.inl (b := w9.heap.size ≤ k ∧ k < w10.heap.size) hk) (grow_lt H9.out.d2.lt hk10.size)) hk10
            have r2 : w10.cell? ⟨w2.heap.size, 2, none⟩ = some (.pointer (some ⟨G 2, 0, none⟩)) := h10.arr.cell 2
            have cs2 := dsy_any h10.d2 (HFAIR.out.fu (by decide) (by decide))
            rw [show syE { Sn with fuse := -1 } = 0 from rfl] at cs2
            have H10 := Lib.hid h10
            clear h10 hd10 hk10 cf p2
            go_wp2_with fail
            refine cs2.mono ?_
            rintro e w11 ⟨rfl, hd11, hk11⟩
            have h11 := H10.out.step2 hd11 hk11
            have h11d := h11.new (Below.refl _ _).drew
            have r3 : w11.drew.cell? ⟨w2.heap.size, 2, none⟩ = some (.pointer (some ⟨G 2, 0, none⟩)) := h11d.arr.cell 2
            have hkr : Reads w11.drew w11.drew.heap.size 1 a' len' ((ks.take len').map (Value.int .i64)) := (HK.out.below h11d.bel).more h11d.bel.size
            have ot := own_any cap' hkr (by omega)
            have H11 := Lib.hid h11d
            clear h11 h11d hd11 hk11 cs2 r2 hkr
            go_wp2_with fail
            go_region_held3 (fun w' => w'.cell? ⟨w2.heap.size, 2, none⟩ = some (.pointer (some ⟨G 2, 0, none⟩)))
              (first | exact r5 | exact r4 | exact r3)
              (first
                | (go_at_call 32
                   (with_reducible refine ot.mono ?_)
                   rintro e w12 ⟨A'', c'', rfl, hown12, hb12⟩
                   have h12 := H11.out.new hb12
                   have r4 : w12.cell? ⟨w2.heap.size, 2, none⟩ = some (.pointer (some ⟨G 2, 0, none⟩)) := h12.arr.cell 2
                   have x1 : (syS { Sn with fuse := -1 }).ops ≤ 4294967296 := by
                     have := (syS_ops { Sn with fuse := -1 }).1
                     have h0 : ({ Sn with fuse := -1 } : DevS).ops = Sn.ops := rfl
                     omega
                   have x2 : len' ≤ maxLen := by unfold maxLen; omega
                   have x3 : ∀ ad, A'' = some ad → ¬ (Grow (Grow (FF 2) w9 w10) w10 w11) ad.block := fun ad e hf => by
                     subst e
                     have h1 := (hown12.lt ad.block rfl).1
                     have h2 := H11.out.d2.lt _ hf
                     omega
                   have cc := dcrash_any h12.d2 x1 c'' (Reads.of_own hown12) x2 x3)
                | (go_at_call 19
                   (with_reducible refine cc.mono ?_)
                   rintro e w13 ⟨rfl, hd13, hk13⟩
                   have h13 := h12.step2 hd13 hk13
                   have r5 : w13.cell? ⟨w2.heap.size, 2, none⟩ = some (.pointer (some ⟨G 2, 0, none⟩)) := h13.arr.cell 2))
            have k0 : w13.cell? ⟨w2.heap.size, 0, none⟩ = some (.pointer (some ⟨G 0, 0, none⟩)) := h13.arr.cell 0
            have i0 := image_is h13.d0 (I := D) (by
              show keepUp Sn.size [] Sn.pend Sn.dur Sn.pend.length = _
              rw [keepUp_none, HD.out])
            have H13 := Lib.hid h13
            clear h13 hd13 hk13 cc x1 x2 x3 r3 r4 r5 hown12 hb12 h12 ot
            go_wp2_with fail
            refine i0.mono ?_
            rintro e w14 ⟨rfl, hb14⟩
            have h14 := H13.out.new hb14
            have k1 : w14.cell? ⟨w2.heap.size, 1, none⟩ = some (.pointer (some ⟨G 1, 0, none⟩)) := h14.arr.cell 1
            have i1 := image_is h14.d1 (I := I) (by
              show keepUp Sn.size (desc k 0) Sn.pend Sn.dur Sn.pend.length = _
              rw [keepUp_all (fun j hj => desc_has (by rw [HPN.out]; exact hj)) _ (Nat.le_refl _), List.take_length, HFAIR.out.sz, HFAIR.out.all, HI.out])
            have H14 := Lib.hid h14
            clear h14 hb14 i0 k0
            go_wp2_with fail
            refine i1.mono ?_
            rintro e w15 ⟨rfl, hb15⟩
            have h15 := H14.out.new hb15
            have k2 : w15.cell? ⟨w2.heap.size, 2, none⟩ = some (.pointer (some ⟨G 2, 0, none⟩)) := h15.arr.cell 2
            have i2 := image_is h15.d2 (I := I) (by exact (synced_img Sn (ks.take len')).trans HI.out)
            have H15 := Lib.hid h15
            clear h15 hb15 i1 k1
            go_wp2_with fail
            refine i2.mono ?_
            rintro e w16 ⟨rfl, hb16⟩
            have h16 := H15.out.new hb16
            have k3 : w16.cell? ⟨w2.heap.size, 0, none⟩ = some (.pointer (some ⟨G 0, 0, none⟩)) := h16.arr.cell 0
            have pe := pending_is h16.d0 (n := 0) rfl
            have H16 := Lib.hid h16
            clear h16 hb16 i2 k2
            go_wp2_with fail
            refine pe.mono ?_
            rintro e w' ⟨rfl, rfl⟩
            go_wp2_with fail
            go_ret
            exact ⟨rfl, H16.out.bel⟩
end Go.Proofs.Ytmkejkmgpigmhaa
