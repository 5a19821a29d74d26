/-
  The contract of slices.Delete at strings of a row of the call's own, up to the end, with its conditions in its own statement.
-/
import Derived.Test.YtmkejkmgpigmhaaDevLib
namespace Go.Proofs.Ytmkejkmgpigmhaa
open Go.RowKit Go.Sort
open Go.Lib hiding intOf
set_option linter.unusedVariables false
set_option linter.unusedSimpArgs false

theorem heap_mapBlock (w : World) (g : Nat) (f : Array Value → Array Value) (cs : Array Value) (t : TypeId) (fr : Nat × Nat) (h : w.heap[g]? = some (.cells cs t fr)) : (mapBlock w g f).heap[g]? = some (.cells (f cs) t fr) := by
  show (w.heap.modify g _)[g]? = _
  rw [Array.getElem?_modify, if_pos rfl, h]
  rfl
theorem heap_mapBlock_ne (w : World) (g k : Nat) (f : Array Value → Array Value) (h : k ≠ g) : (mapBlock w g f).heap[k]? = w.heap[k]? := by
  show (w.heap.modify g _)[k]? = _
  rw [Array.getElem?_modify, if_neg (fun e => h e.symm)]

theorem del_any {w : World} {A : Option Addr} {n c : Nat} {l : List ByteArray} (k : Nat) (h : w.ownsRow 0 9 1 (.slice A n c) n (strs l)) (hk : k ≤ n) (hn : n ≤ 1048576) :
    Calls Try.prog 56 #[.slice A n c, .int .i64 k, .int .i64 n] w fun e w' => e = .returned (.slice A k c) ∧ w'.ownsRow 0 9 1 (.slice A k c) k (strs (l.take k)) ∧ w.grownBy w' (Value.slice A n c).ownBlock := by
  have hll : l.length = n := by have := h.1; rw [strs_len] at this; omega
  rcases h.2 with ⟨hv, hn0⟩ | ⟨g, cap, cur, hv, _, hg, hnc, hcm, hcs, htk⟩
  · injection hv with h1 h2 h3
    subst h1 hn0 h3
    obtain rfl : k = 0 := by omega
    have hl0 : l = [] := List.eq_nil_of_length_eq_zero hll
    subst hl0
    clear h
    go_enter Try.func56, Try.ntmps56
    go_wp2
    go_ret
    exact ⟨rfl, World.ownsRow_nil _ _ _ _, World.grownBy.refl _ _⟩
  · injection hv with h1 h2 h3
    subst h1 h3
    let L : List (List UInt8) := l.map fun s => s.data.toList
    have hL : L.length = n := by simp [L, hll]
    have hat : ∀ j, j < n → cur[j]? = some (.string (l[j]!)) := by
      intro j hj
      have e : (cur.toList.take (n * 1))[j]? = (strs l)[j]? := by rw [htk]
      rw [List.getElem?_take_of_lt (by omega), Array.getElem?_toList] at e
      rw [e, strs, List.getElem?_map, List.getElem?_eq_getElem (by omega), getElem!_pos l j (by omega)]
      rfl
    have henc : ∀ s : ByteArray, encStr s.data.toList = .string s := fun s => by simp [encStr]
    have hH : Holds encStr w g 0 L.toArray := by
      intro j hj
      have hj' : j < n := by simpa [hL] using hj
      have e : L.toArray[j]! = (l[j]!).data.toList := by
        rw [getElem!_pos _ j hj, getElem!_pos l j (by omega)]
        simp [L]
      rw [Nat.zero_add, cell_of_row w g j cur _ _ hg, hat j hj', e, henc]
      exact ⟨rfl, frozen_of_row w g j cur _ hg⟩
    have hc := Try.slices_Delete_string g 0 c k n L w hH (by rw [hL]; exact hnc) (by unfold maxLen at hcm; omega) hk (by rw [hL]; exact Nat.le_refl _)
    rw [hL] at hc
    refine hc.mono ?_
    rintro e w' ⟨rfl, q, rfl⟩
    rw [show n - (n - k) = k by omega]
    have hdrop : L.drop n = [] := List.drop_of_length_le (by omega)
    obtain ⟨d, hd⟩ : ∃ d : Array (List UInt8), d = (L.take k ++ L.drop n ++ List.replicate (n - k) []).toArray := ⟨_, rfl⟩
    have hds : d.size = n := by rw [hd, hdrop]; simp [hL]; omega
    rw [← hd]
    have hg' : (Sort.ahead w q).heap[g]? = some (.cells cur 9 (0, 0)) := hg
    have hnew := heap_mapBlock (Sort.ahead w q) g (putCells encStr 0 d) cur _ _ hg'
    refine ⟨rfl, ⟨by rw [strs_len, List.length_take]; omega, .inr ⟨g, c, putCells encStr 0 d cur, rfl, Nat.zero_le _, hnew, by omega, hcm, by simp [putCells, hcs], ?_⟩⟩, ⟨rfl, rfl, rfl, by simp [putRow, mapBlock, Sort.ahead], fun i hi hne => heap_mapBlock_ne _ _ _ _ (fun e => hne (by rw [e]; rfl))⟩⟩
    apply List.ext_getElem?
    intro j
    by_cases hj : j < k
    · rw [List.getElem?_take_of_lt (by omega), Array.getElem?_toList]
      have hjl : j < l.length := by omega
      have hdj : d[j]! = l[j].data.toList := by
        have hjd : j < d.size := by omega
        rw [getElem!_pos d j hjd]
        simp only [hd, List.getElem_toArray]
        rw [List.getElem_append_left (by simp [hdrop, hL]; omega), List.getElem_append_left (by simp [hL]; omega), List.getElem_take]
        simp [L]
      simp only [putCells, Array.getElem?_mapIdx]
      rw [hat j (by omega), Option.map_some, if_pos ⟨Nat.zero_le _, by omega⟩, Nat.sub_zero, hdj, henc]
      rw [strs, List.getElem?_map, List.getElem?_take_of_lt hj, List.getElem?_eq_getElem hjl]
      rfl
    · rw [List.getElem?_eq_none (by rw [List.length_take]; omega), List.getElem?_eq_none (by rw [strs_len, List.length_take]; omega)]
end Go.Proofs.Ytmkejkmgpigmhaa
