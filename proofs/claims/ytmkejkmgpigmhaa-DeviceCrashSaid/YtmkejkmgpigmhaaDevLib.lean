/-
  Contracts of the library functions that package device calls (strings.Clone, strings.Repeat of one zero byte, slices.Clone, slices.Contains), each with its conditions in its own statement.
-/
import Derived.Test.YtmkejkmgpigmhaaWords
import Derived.Test.YtmkejkmgpigmhaaKept
import Derived.Test.YtmkejkmgpigmhaaDevPlain
import Derived.Test.YtmkejkmgpigmhaaShelf
import Derived.Lib.SliceRun
namespace Go.Proofs.Ytmkejkmgpigmhaa
open Go.RowKit
open Go.Lib hiding intOf
set_option linter.unusedVariables false
set_option linter.unusedSimpArgs false

theorem infoStr : (Try.prog.info? 9).map (fun i => (i.zero, i.size, i.bytes)) = some (some (.string ByteArray.empty), 1, 16) := by kernel_rfl

theorem sclone_any (s : ByteArray) (w : World) (hs : s.size ≤ 281474976710656) :
    Calls Try.prog 34 #[.string s] w fun e w' => e = .returned (.string s) ∧ Below w.heap.size w w' := by
  go_enter Try.func34, Try.ntmps34
  go_wp2_with (go_at_call 53; refine (Try.stringslite_Clone _ _ hs).mono ?_; rintro e w' ⟨rfl, hb⟩)
  go_ret
  exact ⟨rfl, hb⟩

theorem repeatL_one (b : UInt8) : ∀ n, Lib.repeatL [b] n = List.replicate n b
  | 0 => rfl
  | n + 1 => by rw [Lib.repeatL, repeatL_one b n]; rfl
theorem repeat_zs (n : Nat) (w : World) (hn : n ≤ 140737488355328) :
    Calls Try.prog 52 #[.string ⟨#[0]⟩, .int .i64 n] w fun e w' => e = .returned (.string (zs n)) ∧ Below w.heap.size w w' := by
  have h := Try.strings_Repeat ⟨#[0]⟩ n w (by omega) (by show 1 * n ≤ _; omega)
  refine h.mono ?_
  rintro e w' ⟨rfl, hb⟩
  refine ⟨?_, hb⟩
  show Ending.returned (Value.string ⟨(Lib.repeatL [0] n).toArray⟩) = _
  rw [repeatL_one]
  rfl

theorem clones_any {w : World} {A : Option Addr} {n : Nat} {l : List ByteArray} (c : Nat) (hr : Reads w w.heap.size 1 A n (strs l)) (hn : n ≤ 4294967296) :
    Calls Try.prog 54 #[.slice A n c] w fun e w' => ∃ A' c', e = .returned (.slice A' n c') ∧ w'.ownsRow w.heap.size 9 1 (.slice A' n c') n (strs l) ∧ Below w.heap.size w w' := by
  obtain ⟨i0, hi0, hz0, hz1, hz2⟩ := info_parts infoStr
  have q : ∀ (w : World) (a : Option Addr) (n c n' c' : Nat), (binOp .eql 62 (.slice a n c) (.slice none n' c')).run Try.prog w = .ok (.bool a.isNone) w := fun w a n c n' c' => Lib.run_eql_slice_nil w _ _ a n c n' c' Try.underlying62
  rcases A with _ | ad
  · have hn0 : n = 0 := by
      rcases Nat.eq_zero_or_pos n with h | h
      · exact h
      · obtain ⟨ad, e, _⟩ := hr.2 h
        cases e
    subst hn0
    have hl : strs l = [] := List.eq_nil_of_length_eq_zero (by simpa using hr.1)
    have HL := Lib.hid hl
    clear hl hr
    go_enter Try.func54, Try.ntmps54
    go_wp2
    go_ret
    refine ⟨_, _, rfl, ?_, Below.refl _ _⟩
    rw [HL.out]
    exact World.ownsRow_nil _ _ _ _
  · go_enter Try.func54, Try.ntmps54
    go_wp2_with (at_builtin; refine wpList_append_any _ rfl (.tmp 5) (.tmp 6) _ rfl w.heap.size 9 i0 _ 1 16 Try.underlying62 hi0 hz0 hz1 hz2 rfl (by omega) _ 0 [] rfl (World.ownsRow_made w #[] 0 (Nat.le_refl _) (Nat.zero_le _) rfl) (w.heap.size + 1) (some ad) n c (strs l) rfl ((hr.alloc (Nat.le_refl _) _).more (by omega)) (strs_one _) (by unfold maxLen; omega) (by omega) (by simp) ?_; intro v2 w2 hown2 hg2 hat2)
    go_ret
    have hown3 : w2.ownsRow w.heap.size 9 1 v2 n (strs l) := by simpa using hown2
    obtain ⟨A', c', rfl, _⟩ := own_form hown3
    refine ⟨A', c', rfl, hown3, ?_⟩
    exact ((Below.refl _ _).alloc (Nat.le_refl _) _).grown hg2 (by simp) (by rintro k ⟨⟩; exact Nat.le_refl _)

/-- The number tells whether x is among them. -/
def Tells (l : List Int) (x r : Int) : Prop := decide (0 ≤ r) = l.contains x
/-- The place of the first x, from 0 on; -1 if there is none. -/
theorem index_any {w : World} {B : Nat} {A : Option Addr} {n : Nat} {l : List Int} (c : Nat) (x : Int) (hr : Reads w B 1 A n (l.map (Value.int .i64))) (hn : n ≤ maxLen) :
    Calls Try.prog 60 #[.slice A n c, .int .i64 x] w fun e w' => (∃ r : Int, e = .returned (.int .i64 r) ∧ Tells l x r) ∧ w = w' := by
  unfold maxLen at hn
  have hl : l.length = n := by have := hr.1; rw [List.length_map] at this; omega
  go_enter Try.func60, Try.ntmps60
  go_wp2
  go_loop [8] (fun i => ∃ k : Nat, k ≤ n ∧ i = .int .i64 k ∧ Hid ((l.take k).contains x = false)) (fun i => n - (intOf i).toNat)
  case atStart => exact ⟨0, Nat.zero_le _, rfl, by show (List.take 0 l).contains x = false; simp⟩
  case round =>
    obtain ⟨k, hk, rfl, HZ⟩ := hrel
    by_cases hlt : k < n
    · obtain ⟨ad, z, rfl, hb, hz, hc⟩ := int_at hr hlt
      have hkl : k < l.length := by omega
      have hzk : l[k] = z := by rw [List.getElem?_eq_getElem hkl] at hz; injection hz
      have HK := Lib.hid hzk
      clear hzk hz hl
      go_wp2
      · have he : (x == z) = true := by assumption
        go_ret
        refine ⟨⟨k, rfl, ?_⟩, rfl⟩
        have e1 : l.contains x = true := by
          rw [List.contains_iff_mem]
          have : x = z := by simpa using he
          rw [this, ← HK.out]
          exact List.getElem_mem hkl
        unfold Tells; rw [e1]; simp
      · have he : (x == z) = false := by assumption
        go_round
        case rel =>
          refine ⟨k + 1, by omega, by go_num, ?_⟩
          show (l.take (k + 1)).contains x = false
          have h0 := HZ.out
          rw [List.take_succ_eq_append_getElem hkl, HK.out]
          simp only [List.contains_eq_mem, List.mem_append, List.mem_singleton, decide_eq_false_iff_not] at h0 ⊢
          rintro (h | h)
          · exact h0 h
          · subst h; simp at he
        case measure => simp [intOf]; omega
    · go_wp2
      go_ret
      refine ⟨⟨-1, rfl, ?_⟩, rfl⟩
      have h0 := HZ.out
      rw [List.take_of_length_le (by omega)] at h0
      unfold Tells; rw [h0]; decide
theorem contains_any {w : World} {B : Nat} {A : Option Addr} {n : Nat} {l : List Int} (c : Nat) (x : Int) (hr : Reads w B 1 A n (l.map (Value.int .i64))) (hn : n ≤ maxLen) :
    Calls Try.prog 44 #[.slice A n c, .int .i64 x] w fun e w' => e = .returned (.bool (l.contains x)) ∧ w = w' := by
  go_enter Try.func44, Try.ntmps44
  go_wp2_with (go_at_call 60; refine (index_any _ x hr hn).mono ?_; rintro e w' ⟨⟨r, rfl, hres⟩, rfl⟩)
  go_ret
  refine ⟨?_, rfl⟩
  rw [← hres]
  rfl
end Go.Proofs.Ytmkejkmgpigmhaa
