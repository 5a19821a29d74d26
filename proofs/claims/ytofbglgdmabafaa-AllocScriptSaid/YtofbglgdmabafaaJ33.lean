/-
  slices.Sort at numbers of 32 bits, however many.
-/
import Derived.Test.YtofbglgdmabafaaJ31
import Derived.Test.YtofbglgdmabafaaJ32
namespace Go.Proofs.Ytofbglgdmabafaa
open Go.RowKit Go.Sort
set_option linter.unusedVariables false
set_option linter.unusedSimpArgs false

/-- A sorted permutation of an array of naturals, as a list. -/
theorem sorted_nats (l : List Nat) (e : Array Int) (hP : PermIn 0 l.length (l.map Int.ofNat).toArray e) (h3 : SortedIn ltInt 0 l.length e) : ∃ l' : List Nat, l'.Perm l ∧ l'.Pairwise (· ≤ ·) ∧ e.size = l.length ∧ e.toList = l'.map Int.ofNat := by
  obtain ⟨d, hd⟩ : ∃ d, d = (l.map Int.ofNat).toArray := ⟨_, rfl⟩
  rw [← hd] at hP
  have hds : d.size = l.length := by rw [hd]; simp
  obtain ⟨h1, _, h2⟩ := hP
  rw [← hds] at h2 h3
  have hp : e.toList.Perm (l.map Int.ofNat) := by
    have : e.toList.Perm d.toList := by
      have a1 : (e.extract 0 d.size).toList = e.toList := by rw [← h1]; simp
      have a2 : (d.extract 0 d.size).toList = d.toList := by simp
      rw [a1, a2] at h2
      exact h2
    rw [hd] at this
    simpa using this
  have hm : e.toList = (e.toList.map Int.toNat).map Int.ofNat := by
    rw [List.map_map]
    refine (List.map_id' _).symm.trans (List.map_congr_left fun x hx => ?_)
    obtain ⟨y, _, rfl⟩ := List.mem_map.1 (hp.mem_iff.1 hx)
    simp
  refine ⟨e.toList.map Int.toNat, ?_, ?_, by rw [h1, hds], hm⟩
  · have := hp.map Int.toNat
    rw [List.map_map] at this
    refine this.trans (List.Perm.of_eq ?_)
    conv => rhs; rw [← List.map_id l]
    exact List.map_congr_left fun x _ => by simp
  · rw [List.pairwise_map, List.pairwise_iff_getElem]
    intro i j hi hj hij
    have h4 := h3 i j (Nat.zero_le _) hij (by rw [← h1]; simpa using hj)
    rw [Array.length_toList] at hi hj
    rw [getElem!_pos e j hj, getElem!_pos e i hi] at h4
    unfold ltInt at h4
    rw [decide_eq_false_iff_not] at h4
    rw [Array.getElem_toList, Array.getElem_toList]
    omega
theorem len_small (n : Nat) (h : n ≤ 17592186044416) : Lib.bitLen n < 4611686018427387904 := by
  rcases Nat.eq_zero_or_pos n with h0 | h0
  · rw [h0]; decide
  · have := len_pow n n (Nat.le_refl _) h0 (by omega)
    have h2 := Nat.lt_two_pow_self (n := Lib.bitLen n)
    omega
set_option maxRecDepth 100000 in
set_option maxHeartbeats 6400000 in
theorem sortAll (A : Option Addr) (n c : Nat) (w : World) (hn : n ≤ 17592186044416) {R : World → Prop} (hi : ∀ k : Nat, k < 4611686018427387904 → Calls Try.prog 61 #[.slice A n c, .int .i64 0, .int .i64 n, .int .i64 k] w fun e w' => e = .returned (.tuple #[]) ∧ R w') :
    Calls Try.prog 42 #[.slice A n c] w fun e w' => e = .returned (.tuple #[]) ∧ R w' := by
  have hL := len_small n hn
  have hp := hi (Lib.bitLen n) hL
  have hB := fun w => Try.bits_Len (n : Int) w (by omega) (by omega)
  simp only [Int.toNat_natCast] at hB
  clear hi hL
  go_enter Try.func42, Try.ntmps42
  go_wp2_with (first
    | (go_at_call 62; refine (hB _).mono ?_; rintro e w' ⟨rfl, rfl⟩)
    | (go_at_call 61; refine hp.mono ?_; rintro e w' ⟨rfl, hR⟩))
  go_end0
  exact ⟨rfl, hR⟩
theorem own_held {w w' : World} {base n g c : Nat} {cur : Array Value} (d : Array Int) (hb : base ≤ g) (hg : w.heap[g]? = some (.cells cur 27 (0, 0))) (hn : n ≤ c) (hc : c ≤ maxLen) (hs : cur.size = c) (hd : d.size = n) (hS : SameU g w w') (hH : Holds encW w' g 0 d) :
    w'.ownsRow base 27 1 (.slice (some ⟨g, 0, none⟩) n c) n (d.toList.map encW) := by
  obtain ⟨cur', hg', hs'⟩ := hS.2.2 cur _ _ hg
  refine ⟨by simp [hd], .inr ⟨g, c, cur', rfl, hb, hg', hn, hc, by rw [hs', hs, Nat.mul_one], ?_⟩⟩
  rw [Nat.mul_one]
  apply List.ext_getElem?
  intro k
  by_cases hk : k < n
  · rw [List.getElem?_take, if_pos hk, Array.getElem?_toList]
    have h1 := (hH k (by omega)).1
    rw [Nat.zero_add, Blk.cell (t := 27) hg' k] at h1
    rw [h1, List.getElem?_map, Array.getElem?_toList, Array.getElem?_eq_getElem (by omega), getElem!_pos d k (by omega)]
    rfl
  · rw [List.getElem?_take, if_neg hk, List.getElem?_eq_none (by simp; omega)]
theorem sortW_any {A : Option Addr} {n c base : Nat} {l : List Nat} {w : World} (ho : w.ownsRow base 27 1 (.slice A n c) n (ucells l)) (hn : n ≤ 1000000) (hb : base ≤ w.heap.size) :
    Calls Try.prog 42 #[.slice A n c] w fun e w' => e = .returned (.tuple #[]) ∧ ∃ l' : List Nat, l'.Perm l ∧ l'.Pairwise (· ≤ ·) ∧ w'.ownsRow base 27 1 (.slice A n c) n (ucells l') ∧ Go.RowKit.Below base w w' := by
  have hlen : l.length = n := by have := ho.1; simpa [ucells] using this
  rcases Nat.eq_zero_or_pos n with h0 | h0
  · exact sortU_any ho (by omega) hb
  refine sortAll A n c w (by omega) ?_
  intro k hk
  rcases ho.2 with ⟨_, h⟩ | ⟨g, cap, cur, hv, hbg, hg, hnc, hcm, hcs, htk⟩
  · omega
  · injection hv with hA _ hc
    subst hA
    subst hc
    obtain ⟨d, hd⟩ : ∃ d, d = (l.map Int.ofNat).toArray := ⟨_, rfl⟩
    have hds : d.size = n := by rw [hd]; simp [hlen]
    rw [Nat.mul_one] at htk hcs
    have hH : Holds encW w g 0 d := fun j hj => by
      have hc1 : cur[j]? = some (encW d[j]!) := by
        have h1 : (cur.toList.take n)[j]? = (ucells l)[j]? := by rw [htk]
        rw [List.getElem?_take_of_lt (by omega), Array.getElem?_toList] at h1
        rw [h1, ← ucells_enc, List.getElem?_map, getElem!_pos d j hj]
        have : (l.map Int.ofNat)[j]? = some d[j] := by
          subst hd
          rw [List.getElem_toArray, List.getElem?_eq_getElem]
        rw [this]
        rfl
      refine ⟨?_, ?_⟩
      · rw [Nat.zero_add, Blk.cell (t := 27) hg j]; exact hc1
      · rw [Nat.zero_add]; exact Blk.frozen (t := 27) hg j
    refine (pdqU g 0 c n (by omega) n 0 n k d w (by omega) hds (Nat.zero_le _) (Nat.le_refl _) hk (.inl rfl) hH (Blk.lt (t := 27) hg)).mono ?_
    rintro e w' ⟨rfl, e', ⟨hP, hS⟩, hK, hW⟩
    rw [← hlen, hd] at hP
    rw [← hlen] at hS
    obtain ⟨l', hp, hs, hz, he⟩ := sorted_nats l e' hP hS
    refine ⟨rfl, l', hp, hs, ?_, (Go.RowKit.Below.refl base w).grown hW.1 hb (fun k e => by cases e; exact hbg)⟩
    rw [← ucells_enc, ← he]
    exact own_held e' hbg hg hnc hcm hcs (by rw [hz, hlen]) hW hK
end Go.Proofs.Ytofbglgdmabafaa

