/-
  Contract of chain.distinct: whether no number stands twice (at most 12 numbers).
-/
import Derived.Test.YtofbglgdmabafaaJ24
import Derived.Test.YtofbglgdmabafaaJ12
import Derived.Test.YtofbglgdmabafaaJ11
import Derived.Test.YtofbglgdmabafaaJ8
import Derived.Lib.SliceRun
namespace Go.Proofs.Ytofbglgdmabafaa
open Go.RowKit Go.Sort
set_option linter.unusedVariables false
set_option linter.unusedSimpArgs false

set_option maxRecDepth 100000 in
theorem cloneU_any {w : World} {A : Option Addr} {n : Nat} {l : List Nat} (c : Nat) (hr : Reads w w.heap.size 1 A n (ucells l)) (hn : n ≤ 17592186044416) (hA : A = none → n = 0) :
    Calls Try.prog 35 #[.slice A n c] w fun e w' => ∃ A' c', e = .returned (.slice A' n c') ∧ w'.ownsRow w.heap.size 27 1 (.slice A' n c') n (ucells l) ∧ Below w.heap.size w w' := by
  have hq := fun w => Lib.run_eql_slice_nil (P := Try.prog) w 28 27 A n c 0 0 Try.underlying28
  obtain ⟨i0, hi0, hz0, hz1, hz2⟩ := info_parts infoU32
  rcases A with _ | ad
  · obtain rfl := hA rfl
    have hl : l = [] := by have := hr.1; simpa [ucells] using this
    subst hl
    have hq2 := fun w => hq w
    simp only [Option.isNone_none] at hq2
    clear hq hr
    go_enter Try.func35, Try.ntmps35
    go_wp2_with fail
    go_ret
    exact ⟨none, 0, rfl, World.ownsRow_nil _ _ _ _, Below.refl _ _⟩
  · have hq2 := fun w => hq w
    simp only [Option.isNone_some] at hq2
    clear hq
    go_enter Try.func35, Try.ntmps35
    go_wp2_with (at_builtin; refine wpList_append_any _ rfl (.tmp 5) (.tmp 6) _ rfl w.heap.size 27 i0 _ 1 4 Try.underlying28 hi0 hz0 hz1 hz2 rfl (by omega) _ 0 [] rfl (World.ownsRow_made w #[] 0 (Nat.le_refl _) (Nat.zero_le _) rfl) (w.heap.size + 1) (some ad) n c (ucells l) rfl ((hr.alloc (Nat.le_refl _) _).more (by omega)) (ucells_one _) (by unfold maxLen; omega) (by omega) (by simp) ?_; intro v2 w2 hown2 hg2 hat2)
    go_ret
    have hown3 : w2.ownsRow w.heap.size 27 1 v2 n (ucells l) := by simpa using hown2
    obtain ⟨A', c', rfl, _⟩ := own_form hown3
    exact ⟨A', c', rfl, hown3, ((Below.refl _ _).alloc (Nat.le_refl _) _).grown hg2 (by simp) (by rintro k ⟨⟩; exact Nat.le_refl _)⟩
theorem ucells_enc (l : List Nat) : (l.map Int.ofNat).map encW = ucells l := by
  unfold ucells
  rw [List.map_map]
  rfl
theorem sortU_any {A : Option Addr} {n c base : Nat} {l : List Nat} {w : World} (ho : w.ownsRow base 27 1 (.slice A n c) n (ucells l)) (hn : n ≤ 12) (hb : base ≤ w.heap.size) :
    Calls Try.prog 42 #[.slice A n c] w fun e w' => e = .returned (.tuple #[]) ∧ ∃ l' : List Nat, l'.Perm l ∧ l'.Pairwise (· ≤ ·) ∧ w'.ownsRow base 27 1 (.slice A n c) n (ucells l') ∧ Below base w w' := by
  refine sort12 A n c w hn ?_
  have hlen : l.length = n := by have := ho.1; simpa [ucells] using this
  rcases Nat.eq_zero_or_pos n with h0 | h0
  · subst h0
    obtain rfl : l = [] := List.length_eq_zero_iff.1 hlen
    exact (insU0 A c w).mono (by rintro e w' ⟨rfl, rfl⟩; exact ⟨rfl, [], List.Perm.refl _, List.Pairwise.nil, ho, Below.refl _ _⟩)
  · rcases ho.2 with ⟨_, h⟩ | ⟨g, cap, cur, hv, hbg, hg, hnc, hcm, hcs, htk⟩
    · omega
    · injection hv with hA _ hc
      subst hA
      subst hc
      obtain ⟨l', hp, hs, hz, he⟩ := ins_nats l
      obtain ⟨d, hd⟩ : ∃ d, d = (l.map Int.ofNat).toArray := ⟨_, rfl⟩
      rw [← hd] at hz he
      have hds : d.size = n := by rw [hd]; simp [hlen]
      rw [Nat.mul_one] at htk hcs
      have hH : Holds encW w g 0 d := fun j hj => by
        have hc1 : cur[j]? = some (encW d[j]!) := by
          have h1 : (cur.toList.take n)[j]? = (ucells l)[j]? := by rw [htk]
          rw [List.getElem?_take_of_lt (by omega), Array.getElem?_toList] at h1
          rw [h1, ← ucells_enc, List.getElem?_map, getElem!_pos d j hj]
          have : (l.map Int.ofNat)[j]? = some d[j] := by
            subst hd
            rw [List.getElem_toArray, List.getElem?_eq_getElem]
          rw [this]
          rfl
        refine ⟨?_, ?_⟩
        · rw [Nat.zero_add, Blk.cell (t := 27) hg j]; exact hc1
        · rw [Nat.zero_add]; exact Blk.frozen (t := 27) hg j
      have h := insU g 0 c 0 d.size d w hH (Nat.zero_le _) (Nat.le_refl _) (by omega)
      rw [hds] at h
      refine h.mono ?_
      rintro e w' ⟨rfl, m, rfl⟩
      rw [hds, hlen] at hz
      rw [hds] at he
      refine ⟨rfl, l', hp, hs, ?_, (Below.refl base w).grown (grown_putRow w m g _) hb (fun k e => by cases e; exact hbg)⟩
      rw [← ucells_enc, ← he]
      exact own_sorted _ hbg hg hnc hcm hcs hz
end Go.Proofs.Ytofbglgdmabafaa

