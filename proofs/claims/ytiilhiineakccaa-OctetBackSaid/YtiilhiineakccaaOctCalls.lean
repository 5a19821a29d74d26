/-
  The walk of the statement OctetCalls (Put is as the document says, its argument unchanged): from every start, at every argument, it returns true and changes no block that was there before.
-/
import Derived.Test.YtiilhiineakccaaOctLaw
import Derived.Deep.RegionWith
namespace Go.Proofs.Ytiilhiineakccaa
open Go.RowKit Go.Lib

/-- 'string(b)' of a slice that reads as bytes, as the walk meets it. -/
theorem str_of {W : World} {B n c : Nat} {A : Option Addr} {l : List UInt8} (h : Reads W B 1 A n (bcells l)) :
    (convert 34 9 (.slice A n c)).run Try.prog W = .ok (.string ⟨l.toArray⟩) W :=
  run_string_reads W 34 9 5 c Try.underlying34 Try.underlying5 Try.underlying9 h

/-- Put and its reference, at any width: the same bytes k. -/
theorem put_all (A : Option Addr) (n c num : Nat) (wd : Int) (l : List UInt8) (w : World) (hr : Reads w w.heap.size 1 A n (bcells l)) (hn : n + 8 ≤ 140737488355328) :
    Calls Try.prog 15 #[.slice A n c, .int .u64 num, .int .i64 wd] w fun e w' => ∃ v k, e = .returned v ∧ k = (if 1 ≤ wd ∧ wd ≤ 8 then wd.toNat else 0) ∧ w'.ownsRow w.heap.size 5 1 v (n + k) (bcells (l ++ leBytes k num)) ∧ Below w.heap.size w w' := by
  by_cases h : 1 ≤ wd ∧ wd ≤ 8
  · obtain ⟨k, rfl⟩ : ∃ k : Nat, wd = k := ⟨wd.toNat, by omega⟩
    exact (put_yes A n c num k l w hr hn (by omega) (by omega)).mono fun _ _ ⟨v, he, ho, hb⟩ => ⟨v, k, he, by rw [if_pos h]; simp, ho, hb⟩
  · exact (put_no A n c num wd l w hr hn h).mono fun _ _ ⟨v, he, ho, hb⟩ => ⟨v, 0, he, by rw [if_neg h], by simpa [leBytes] using ho, hb⟩
theorem rput_all (A : Option Addr) (n c num : Nat) (wd : Int) (l : List UInt8) (w : World) (hr : Reads w w.heap.size 1 A n (bcells l)) (hn : n + 8 ≤ 140737488355328) :
    Calls Try.prog 22 #[.slice A n c, .int .u64 num, .int .i64 wd] w fun e w' => ∃ v k, e = .returned v ∧ k = (if 1 ≤ wd ∧ wd ≤ 8 then wd.toNat else 0) ∧ w'.ownsRow w.heap.size 5 1 v (n + k) (bcells (l ++ leBytes k num)) ∧ Below w.heap.size w w' := by
  by_cases h : 1 ≤ wd ∧ wd ≤ 8
  · obtain ⟨k, rfl⟩ : ∃ k : Nat, wd = k := ⟨wd.toNat, by omega⟩
    exact (rput_yes A n c num k l w hr hn (by omega) (by omega)).mono fun _ _ ⟨v, he, ho, hb⟩ => ⟨v, k, he, by rw [if_pos h]; simp, ho, hb⟩
  · exact (rput_no A n c num wd l w hr hn h).mono fun _ _ ⟨v, he, ho, hb⟩ => ⟨v, 0, he, by rw [if_neg h], by simpa [leBytes] using ho, hb⟩

set_option maxHeartbeats 4000000 in
theorem calls_walk (a0 : Option Addr) (len0 cap0 : Nat) (z0 : List Int) (a1 : Int) (a2 : Int) (w : World) (w0 : IsRow .u8 w a0 len0 cap0 z0) (w1 : (Lit.int .u64 a1).wf = true) (_w2 : (Lit.int .i64 a2).wf = true) :
    Calls Try.prog 5 #[.slice a0 len0 cap0, .int .u64 a1, .int .i64 a2] w fun e w' => e = .returned (.bool true) ∧ Below w.heap.size w w' := by
  obtain ⟨hr0, hlc, hcm, hll, hwf⟩ := w0.reads
  obtain ⟨l, hl, hln⟩ := bytes_of_ints _ hwf
  rw [hl] at hr0
  have hu := bounds_u64 w1
  obtain ⟨num, rfl⟩ := Int.eq_ofNat_of_zero_le hu.1
  unfold maxLen at hcm
  have R0 := Lib.hid hr0
  clear w0 hr0 hll hwf hl hln w1
  by_cases h3 : len0 ≤ 300
  · go_enter Try.func5, Try.ntmps5
    go_wp2_with fail
    refine (lives_any w).mono ?_
    rintro e w1 ⟨rfl, hb1⟩
    have r1 := R0.out.below hb1
    have hc1 := str_of (c := cap0) r1
    have B1 := Lib.hid hb1
    have R1 := Lib.hid r1
    clear hb1 r1
    go_wp2_with fail
    refine (put_all a0 len0 cap0 num a2 l w1 (R1.out.more B1.out.size) (by omega)).mono ?_
    rintro e w2 ⟨v, k, rfl, hk, hown, hb2⟩
    have hb2' : Below w.heap.size w w2 := B1.out.trans (hb2.mono B1.out.size)
    obtain ⟨A2, c2, rfl, _, _, _⟩ := own_form hown
    have R2 := Lib.hid (Reads.of_own hown)
    have B2 := Lib.hid hb2'
    have HK := Lib.hid hk
    clear hk hc1 hb2 hb2' hown
    go_wp2_with fail
    have cA := str_of (c := c2) (R2.out.drew)
    have cB := str_of (c := cap0) ((R0.out.below B2.out).drew)
    go_region_with (first
      | (go_at_call 22
         refine (rput_all a0 len0 cap0 num a2 l _ ((R0.out.below B2.out).drew.more B2.out.size) (by omega)).mono ?_
         rintro e w3 ⟨v3, k3, rfl, hk3, hown3, hb3⟩
         obtain rfl : k = k3 := by rw [hk3, HK.out]
         obtain ⟨A3, c3, rfl, _, _, _⟩ := own_form hown3
         have hc3 := str_of (c := c3) (Reads.of_own hown3)
         have hA3 := str_of (c := c2) (R2.out.drew.below hb3)
         have hB3 := str_of (c := cap0) ((R0.out.below B2.out).drew.below (hb3.mono B2.out.size))
         have B3 := B2.out.drew.trans (hb3.mono B2.out.size)
         clear hk3 hown3 hb3))
    all_goals go_wp2
    all_goals go_ret
    all_goals exact ⟨rfl, B3⟩
  · have h3' : 300 < len0 := by omega
    go_enter Try.func5, Try.ntmps5
    go_wp2_with fail
    refine (lives_any w).mono ?_
    rintro e w1 ⟨rfl, hb1⟩
    go_wp2_with fail
    go_ret
    exact ⟨rfl, hb1⟩
end Go.Proofs.Ytiilhiineakccaa
