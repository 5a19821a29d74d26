/-
  Contracts of the functions of package octet (Put, New, Number, Bytes, Left, Rest, Zero and what they call), each with its conditions in its own statement: what a call returns and what becomes of memory.
-/
import Derived.Test.YtnpockkhefbjoaaWords
import Derived.Test.YtnpockkhefbjoaaPlain
namespace Go.Proofs.Ytnpockkhefbjoaa
open Go.RowKit
theorem infoRd : (Try.prog.info? 62).map (fun i => (i.zero, i.size, i.bytes)) = some (some (.agg #[.pointer none, .string ByteArray.empty]), 2, 24) := by kernel_rfl
theorem infoU8 : (Try.prog.info? 5).map (fun i => (i.zero, i.size, i.bytes)) = some (some (.int .u8 0), 1, 1) := by kernel_rfl

def IsRd (w : World) (g : Nat) (s : ByteArray) : Prop := Blk w g 62 #[.pointer (some ⟨g, 0, none⟩), .string s]

theorem valid_yes {w : World} {g : Nat} {s : ByteArray} (h : IsRd w g s) :
    Calls Try.prog 42 #[.pointer (some ⟨g, 0, none⟩)] w fun e w' => e = .returned (.bool true) ∧ w = w' := by
  obtain ⟨i0, hi0, hz0, hz1, hz2⟩ := info_parts infoRd
  have c0 := Blk.cell h 0
  simp at c0
  have heq := run_eql_ptr_same w ⟨g, 0, none⟩ Try.underlying56 hi0
  go_enter Try.func42, Try.ntmps42
  go_wp2
  go_ret
  exact ⟨rfl, rfl⟩

theorem valid_nil {w : World} :
    Calls Try.prog 42 #[.pointer none] w fun e w' => e = .returned (.bool false) ∧ w = w' := by
  go_enter Try.func42, Try.ntmps42
  go_wp2
  go_ret
  exact ⟨rfl, rfl⟩

theorem width_any (n : Int) (w : World) :
    Calls Try.prog 41 #[.int .i64 n] w fun e w' => e = .returned (.bool (decide (1 ≤ n) && decide (n ≤ 8))) ∧ w = w' := by
  by_cases h1 : 1 ≤ n <;> by_cases h2 : n ≤ 8 <;> go_enter Try.func41, Try.ntmps41 <;> go_wp2 <;> go_ret <;> exact ⟨by simp [h1, h2], rfl⟩

theorem new_any (s : ByteArray) (w : World) :
    Calls Try.prog 39 #[.string s] w fun e w' => e = .returned (.pointer (some ⟨w.heap.size, 0, none⟩)) ∧ w' = w.alloc (.cells #[.pointer (some ⟨w.heap.size, 0, none⟩), .string s] 62) := by
  go_enter Try.func39, Try.ntmps39
  go_wp2
  go_ret
  exact ⟨rfl, rfl⟩
open Go.Lib
theorem getElem_toList (s : ByteArray) (k : Nat) (h : k < s.size) : s.data.toList[k]'(by simpa using h) = s[k] := rfl
theorem number_any (s : ByteArray) (w : World) (hs : s.size ≤ 8) :
    Calls Try.prog 44 #[.string s] w fun e w' => e = .returned (.int .u64 (leNat s.data.toList)) ∧ w = w' := by
  go_enter Try.func44, Try.ntmps44
  go_wp2
  go_loop [3, 7] (fun n i => ∃ k : Nat, k ≤ s.size ∧ i = .int .i64 k ∧ n = .int .u64 (leNat (s.data.toList.take k))) (fun _ i => s.size - (intOf i).toNat)
  case atStart => exact ⟨0, Nat.zero_le _, rfl, rfl⟩
  case round =>
    obtain ⟨k, hk, rfl, rfl⟩ := hrel
    by_cases hlt : k < s.size
    · go_wp2
      go_round
      case rel =>
        refine ⟨k + 1, by omega, by go_num, ?_⟩
        have hl : (s.data.toList.take k).length = k := by simp; omega
        have h1 := leNat_lt (s.data.toList.take k)
        have h2 := leNat_snoc (s.data.toList.take k) s[k]
        rw [hl] at h1 h2
        rw [or_step _ k s[k] (by omega) h1, take_snoc _ k (by simpa using hlt), ← h2]
        rfl
      case measure => simp [intOf]; omega
    · go_wp2
      go_ret
      refine ⟨?_, rfl⟩
      rw [List.take_of_length_le (by simp; omega)]; rfl
theorem oneCell_one {u : Value} (h : u.oneCell' = true) : ∀ v ∈ [u], v.oneCell' = true := by
  intro v hv; simp at hv; subst hv; exact h
theorem reads_new (w : World) (cs : Array Value) (t : TypeId) (fr : Nat × Nat) : Reads (w.alloc (.cells cs t fr)) (w.heap.size + 1) 1 (some ⟨w.heap.size, 0, none⟩) cs.size cs.toList := by
  refine ⟨by simp, fun _ => ⟨_, rfl, Nat.lt_succ_self _, fun j u hu => ?_⟩⟩
  have e : (⟨w.heap.size, 0, none⟩ : Addr).add j = ⟨w.heap.size, j, none⟩ := by unfold Addr.add; split <;> simp_all
  rw [e, World.cell?_alloc_mark]
  simpa using hu
theorem byte_cell (num j : Nat) : [Value.int .u8 ((num : Int) / 2 ^ (8 * j) % 256)] = bcells [(num / 2 ^ (8 * j) % 256).toUInt8] := by
  simp [bcells]
theorem put_yes (A : Option Addr) (n c num k : Nat) (l : List UInt8) (w : World) (hr : Reads w w.heap.size 1 A n (bcells l)) (hn : n + 8 ≤ 140737488355328) (h1 : 1 ≤ k) (h2 : k ≤ 8) :
    Calls Try.prog 38 #[.slice A n c, .int .u64 num, .int .i64 k] w fun e w' => ∃ v, e = .returned v ∧ w'.ownsRow w.heap.size 5 1 v (n + k) (bcells (l ++ leBytes k num)) ∧ Below w.heap.size w w' := by
  obtain ⟨i0, hi0, hz0, hz1, hz2⟩ := info_parts infoU8
  have h1' : (1 : Int) ≤ k := by omega
  have h2' : (k : Int) ≤ 8 := by omega
  have hb : (decide ((1 : Int) ≤ k) && decide ((k : Int) ≤ 8)) = true := by simp; omega
  go_enter Try.func38, Try.ntmps38
  go_wp2_with (first
    | (go_at_call 41; refine (width_any _ _).mono ?_; rintro e w' ⟨rfl, rfl⟩)
    | (at_make; refine wpList_make_own _ rfl _ _ 39 rfl w.heap.size 5 i0 _ 1 Try.underlying39 hi0 hz0 hz1 _ _ _ (n + k) rfl rfl (by omega) (by rw [hz2]; omega) (by unfold maxLen; omega) (Nat.le_refl _) ?_; intro w1 hown1 hg1)
    | (at_builtin; refine wpList_append_any _ rfl (.tmp 17) (.tmp 18) _ rfl w.heap.size 5 i0 _ 1 1 Try.underlying39 hi0 hz0 hz1 hz2 rfl (by omega) _ 0 [] rfl hown1 w.heap.size A n c _ rfl (hr.below ((Below.refl _ _).grown hg1 (Nat.le_refl _) (by simp))) (bcells_one _) (by unfold maxLen; omega) (by omega) hg1.size ?_; intro v2 w2 hown2 hg2 hat2))
  have hb2 : Below w.heap.size w w2 := ((Below.refl _ _).grown hg1 (Nat.le_refl _) (by simp)).grown hg2 hg1.size (by rintro g ⟨⟩; exact Nat.le_refl _)
  clear hg1 hg2 hown1 hat2
  go_loopw [7, 21] (fun v i wr => ∃ j : Nat, j ≤ k ∧ i = .int .i64 j ∧ wr.ownsRow w.heap.size 5 1 v (n + j) (bcells (l ++ leBytes j num)) ∧ Below w.heap.size w wr) (fun _ i _ => k - (intOf i).toNat)
  case atStart => exact ⟨0, Nat.zero_le _, rfl, by simpa [leBytes] using hown2, hb2⟩
  case round =>
    obtain ⟨j, hj, rfl, hown, hbr⟩ := hrel
    by_cases hlt : j < k
    · go_wp2_with (first
        | (at_builtin; refine wpList_append_any _ rfl (.tmp 24) (.tmp 30) _ rfl w.heap.size 5 i0 _ 1 1 Try.underlying39 hi0 hz0 hz1 hz2 rfl (by omega) _ (n + j) _ rfl (hown.alloc _) (wr.heap.size + 1) (some ⟨wr.heap.size, 0, none⟩) 1 1 [Value.int .u8 ((num : Int) / 2 ^ (8 * j) % 256)] rfl (reads_new _ _ _ _) (oneCell_one rfl) (by unfold maxLen; omega) (by omega) (by have := hbr.size; simp; omega) ?_; intro v3 w3 hown3 hg3 hat3))
      go_roundw
      case rel =>
        refine ⟨j + 1, by omega, by go_num, ?_, ?_⟩
        · rw [leBytes_snoc, ← List.append_assoc, bcells_append, ← byte_cell]
          exact hown3
        · exact (hbr.alloc hbr.size _).grown hg3 (by have := hbr.size; simp; omega) (fun g hg => (hown.lt g hg).1)
      case measure => simp [intOf]; omega
    · go_wp2
      go_ret
      have : j = k := by omega
      subst this
      exact ⟨_, rfl, hown, hbr⟩


theorem put_no (A : Option Addr) (n c num : Nat) (wd : Int) (l : List UInt8) (w : World) (hr : Reads w w.heap.size 1 A n (bcells l)) (hn : n + 8 ≤ 140737488355328) (hw : ¬ (1 ≤ wd ∧ wd ≤ 8)) :
    Calls Try.prog 38 #[.slice A n c, .int .u64 num, .int .i64 wd] w fun e w' => ∃ v, e = .returned v ∧ w'.ownsRow w.heap.size 5 1 v n (bcells l) ∧ Below w.heap.size w w' := by
  obtain ⟨i0, hi0, hz0, hz1, hz2⟩ := info_parts infoU8
  have hb : (decide ((1 : Int) ≤ wd) && decide (wd ≤ 8)) = false := by simp; omega
  clear hw
  go_enter Try.func38, Try.ntmps38
  go_wp2_with (first
    | (go_at_call 41; refine (width_any _ _).mono ?_; rw [hb]; rintro e w' ⟨rfl, rfl⟩)
    | (at_make; refine wpList_make_own _ rfl _ _ 39 rfl w.heap.size 5 i0 _ 1 Try.underlying39 hi0 hz0 hz1 _ _ _ n rfl rfl (by omega) (by rw [hz2]; omega) (by unfold maxLen; omega) (Nat.le_refl _) ?_; intro w1 hown1 hg1)
    | (at_builtin; refine wpList_append_any _ rfl (.tmp 17) (.tmp 18) _ rfl w.heap.size 5 i0 _ 1 1 Try.underlying39 hi0 hz0 hz1 hz2 rfl (by omega) _ 0 [] rfl hown1 w.heap.size A n c _ rfl (hr.below ((Below.refl _ _).grown hg1 (Nat.le_refl _) (by simp))) (bcells_one _) (by unfold maxLen; omega) (by omega) hg1.size ?_; intro v2 w2 hown2 hg2 hat2))
  have hb2 : Below w.heap.size w w2 := ((Below.refl _ _).grown hg1 (Nat.le_refl _) (by simp)).grown hg2 hg1.size (by rintro g ⟨⟩; exact Nat.le_refl _)
  have hown3 : w2.ownsRow w.heap.size 5 1 v2 n (bcells l) := by simpa using hown2
  clear hg1 hg2 hown1 hat2 hown2
  refine wp_loop_rounds 1 ?_
  rw [rounds_succ]
  go_wp2
  go_ret
  exact ⟨_, rfl, hown3, hb2⟩
theorem bytes_arg {w : World} {g : Nat} {s : ByteArray} (h : IsRd w g s) (n : Int) (hn : n < 0) :
    Calls Try.prog 43 #[.pointer (some ⟨g, 0, none⟩), .int .i64 n] w fun e w' => e = .returned (.tuple #[.string ⟨#[]⟩, .int .i64 2]) ∧ w = w' := by
  go_enter Try.func43, Try.ntmps43
  go_wp2_with (go_at_call 42; refine (valid_yes h).mono ?_; rintro e w' ⟨rfl, rfl⟩)
  go_ret2
  exact ⟨rfl, rfl⟩
theorem bytes_more {w : World} {g : Nat} {s : ByteArray} (h : IsRd w g s) (n : Int) (hn : (s.size : Int) < n) :
    Calls Try.prog 43 #[.pointer (some ⟨g, 0, none⟩), .int .i64 n] w fun e w' => e = .returned (.tuple #[.string ⟨#[]⟩, .int .i64 7]) ∧ w = w' := by
  have c1 := Blk.cell h 1
  simp at c1
  have h0 : ¬ n < 0 := by omega
  go_enter Try.func43, Try.ntmps43
  go_wp2_with (go_at_call 42; refine (valid_yes h).mono ?_; rintro e w' ⟨rfl, rfl⟩)
  go_ret2
  exact ⟨rfl, rfl⟩
theorem bytes_ok {w : World} {g : Nat} {s : ByteArray} (h : IsRd w g s) (n : Nat) (hn : n ≤ s.size)  :
    Calls Try.prog 43 #[.pointer (some ⟨g, 0, none⟩), .int .i64 n] w fun e w' => e = .returned (.tuple #[.string (s.extract 0 n), .int .i64 0]) ∧ w' = w.setCell ⟨g, 1, none⟩ (.string (s.extract n s.size)) := by
  have c1 := Blk.cell h 1
  simp at c1
  have f1 := Blk.frozen h 1
  go_enter Try.func43, Try.ntmps43
  go_wp2_with (go_at_call 42; refine (valid_yes h).mono ?_; rintro e w' ⟨rfl, rfl⟩)
  go_ret2
  exact ⟨rfl, rfl⟩
theorem bytes_nil {w : World} (n : Int) :
    Calls Try.prog 43 #[.pointer none, .int .i64 n] w fun e w' => e = .returned (.tuple #[.string ⟨#[]⟩, .int .i64 1]) ∧ w = w' := by
  go_enter Try.func43, Try.ntmps43
  go_wp2_with (go_at_call 42; refine (valid_nil).mono ?_; rintro e w' ⟨rfl, rfl⟩)
  go_ret2
  exact ⟨rfl, rfl⟩
theorem number_nil {w : World} (n : Int) :
    Calls Try.prog 40 #[.pointer none, .int .i64 n] w fun e w' => e = .returned (.tuple #[.int .u64 0, .int .i64 1]) ∧ w = w' := by
  go_enter Try.func40, Try.ntmps40
  go_wp2_with (go_at_call 42; refine (valid_nil).mono ?_; rintro e w' ⟨rfl, rfl⟩)
  go_ret2
  exact ⟨rfl, rfl⟩


theorem number_arg {w : World} {g : Nat} {s : ByteArray} (h : IsRd w g s) (n : Int) (hn : ¬ (1 ≤ n ∧ n ≤ 8)) :
    Calls Try.prog 40 #[.pointer (some ⟨g, 0, none⟩), .int .i64 n] w fun e w' => e = .returned (.tuple #[.int .u64 0, .int .i64 2]) ∧ w = w' := by
  have hb : (decide ((1 : Int) ≤ n) && decide (n ≤ 8)) = false := by simp; omega
  clear hn
  go_enter Try.func40, Try.ntmps40
  go_wp2_with (first
    | (go_at_call 42; refine (valid_yes h).mono ?_; rintro e w' ⟨rfl, rfl⟩)
    | (go_at_call 41; refine (width_any _ _).mono ?_; rw [hb]; rintro e w' ⟨rfl, rfl⟩))
  go_ret2
  exact ⟨rfl, rfl⟩
theorem number_more {w : World} {g : Nat} {s : ByteArray} (h : IsRd w g s) (n : Int) (h1 : 1 ≤ n) (h2 : n ≤ 8) (hn : (s.size : Int) < n) :
    Calls Try.prog 40 #[.pointer (some ⟨g, 0, none⟩), .int .i64 n] w fun e w' => e = .returned (.tuple #[.int .u64 0, .int .i64 7]) ∧ w = w' := by
  have hb : (decide ((1 : Int) ≤ n) && decide (n ≤ 8)) = true := by simp; omega
  go_enter Try.func40, Try.ntmps40
  go_wp2_with (first
    | (go_at_call 42; refine (valid_yes h).mono ?_; rintro e w' ⟨rfl, rfl⟩)
    | (go_at_call 41; refine (width_any _ _).mono ?_; rw [hb]; rintro e w' ⟨rfl, rfl⟩)
    | (go_at_call 43; refine (bytes_more h _ hn).mono ?_; rintro e w' ⟨rfl, rfl⟩))
  go_ret2
  exact ⟨rfl, rfl⟩
theorem number_ok {w : World} {g : Nat} {s : ByteArray} (h : IsRd w g s) (n : Nat) (h1 : 1 ≤ n) (h2 : n ≤ 8) (hn : n ≤ s.size) :
    Calls Try.prog 40 #[.pointer (some ⟨g, 0, none⟩), .int .i64 n] w fun e w' => e = .returned (.tuple #[.int .u64 (leNat (s.data.toList.take n)), .int .i64 0]) ∧ w' = w.setCell ⟨g, 1, none⟩ (.string (s.extract n s.size)) := by
  have hb : (decide ((1 : Int) ≤ n) && decide ((n : Int) ≤ 8)) = true := by simp; omega
  have hsz : (s.extract 0 n).size ≤ 8 := by simp; omega
  have hdat : (s.extract 0 n).data.toList = s.data.toList.take n := by simp
  go_enter Try.func40, Try.ntmps40
  go_wp2_with (first
    | (go_at_call 42; refine (valid_yes h).mono ?_; rintro e w' ⟨rfl, rfl⟩)
    | (go_at_call 41; refine (width_any _ _).mono ?_; rw [hb]; rintro e w' ⟨rfl, rfl⟩)
    | (go_at_call 43; refine (bytes_ok h n hn).mono ?_; rintro e w' ⟨rfl, rfl⟩)
    | (go_at_call 44; refine (number_any _ _ hsz).mono ?_; rw [hdat]; rintro e w' ⟨rfl, rfl⟩))
  go_ret2
  exact ⟨rfl, rfl⟩
/-! The same, where the world behind is told by what it is good for: only the reader's block has turned. -/
theorem IsRd.stored {w : World} {g : Nat} {s : ByteArray} (h : IsRd w g s) (s' : ByteArray) : IsRd (w.setCell ⟨g, 1, none⟩ (.string s')) g s' ∧ w.grownBy (w.setCell ⟨g, 1, none⟩ (.string s')) (some g) := by
  refine ⟨Blk.set_ h 1 _, rfl, rfl, rfl, by simp [World.setCell], fun k _ hne => Below.heap_setCell _ _ _ _ (fun e => hne (by rw [e]))⟩
theorem bytes_ok' {w : World} {g : Nat} {s : ByteArray} (h : IsRd w g s) (n : Nat) (hn : n ≤ s.size) :
    Calls Try.prog 43 #[.pointer (some ⟨g, 0, none⟩), .int .i64 n] w fun e w' => e = .returned (.tuple #[.string (s.extract 0 n), .int .i64 0]) ∧ IsRd w' g (s.extract n s.size) ∧ w.grownBy w' (some g) :=
  (bytes_ok h n hn).mono fun _ _ ⟨he, hw⟩ => ⟨he, by subst hw; exact h.stored _⟩
theorem number_ok' {w : World} {g : Nat} {s : ByteArray} (h : IsRd w g s) (n : Nat) (h1 : 1 ≤ n) (h2 : n ≤ 8) (hn : n ≤ s.size) :
    Calls Try.prog 40 #[.pointer (some ⟨g, 0, none⟩), .int .i64 n] w fun e w' => e = .returned (.tuple #[.int .u64 (leNat (s.data.toList.take n)), .int .i64 0]) ∧ IsRd w' g (s.extract n s.size) ∧ w.grownBy w' (some g) :=
  (number_ok h n h1 h2 hn).mono fun _ _ ⟨he, hw⟩ => ⟨he, by subst hw; exact h.stored _⟩
theorem new_any' (s : ByteArray) (w : World) :
    Calls Try.prog 39 #[.string s] w fun e w' => e = .returned (.pointer (some ⟨w.heap.size, 0, none⟩)) ∧ IsRd w' w.heap.size s ∧ Below w.heap.size w w' ∧ w.heap.size < w'.heap.size :=
  (new_any s w).mono fun _ _ ⟨he, hw⟩ => ⟨he, by subst hw; exact ⟨Blk.new _ _ _, (Below.refl _ _).alloc (Nat.le_refl _) _, by simp⟩⟩
end Go.Proofs.Ytnpockkhefbjoaa
