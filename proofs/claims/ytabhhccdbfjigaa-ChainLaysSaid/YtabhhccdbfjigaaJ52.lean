/-
  The walk of the statement ChainLays: from every start, at every argument, it returns true and changes no block that was there before.
-/
import Derived.Test.YtabhhccdbfjigaaJ46
import Derived.Test.YtabhhccdbfjigaaJ51
import Derived.Deep.CutRange
namespace Go.Proofs.Ytabhhccdbfjigaa
open Go.RowKit
open Go.Lib hiding intOf
set_option linter.unusedVariables false
set_option linter.unusedSimpArgs false
attribute [local go_sem ↓] Go.wp_at_zero Go.wp_at_succ

theorem onL_len {size : Int} {tx : Nat} {ps : List Nat} {v : ByteArray} : (pgsL (onL size tx ps v)).length ≤ ps.length := by
  unfold onL
  split
  · simp [pgsL]
  · simp [pgsL]
theorem listsL_len {size : Int} {tx : Nat} {ps ns : List Nat} : (pgsL (listsL size tx ps ns)).length ≤ ps.length := by
  unfold listsL
  split
  · simp [pgsL]
  · simp [pgsL]
theorem pagesL_len {size : Int} {tx f : Nat} {v : ByteArray} (hv : v.size ≤ 1000000) : (pgsL (pagesL size tx f v)).length ≤ 1000000 := by
  have h1 := onL_len (size := size) (tx := tx) (ps := runW f (needN size v.size)) (v := v)
  rw [runW_len] at h1
  have h2 := needN_le size v.size hv
  exact Nat.le_trans h1 h2

set_option maxRecDepth 100000 in
set_option maxHeartbeats 12800000 in
theorem chlays_g1 (size : Int) (tx : Nat) (A1 : Option Addr) (n1 c1 : Nat) (ps : List Nat) (v : ByteArray) (A2 : Option Addr) (n2 c2 : Nat) (ns : List Nat) (f : Nat) (img : ByteArray) (A3 : Option Addr) (n3 c3 : Nat) (l : List Pg) (w : World)  (h1 : 60 < n1) :
    Calls Try.prog 4 #[.int .i64 size, .int .u64 tx, .slice A1 n1 c1, .string v, .slice A2 n2 c2, .int .u32 f, .string img, .slice A3 n3 c3] w fun e w' => e = .returned (.bool true) ∧ Below w.heap.size w w' := by
  have g1 : decide ((60 : Int) < (n1 : Int)) = true := by simp; omega
  have g1b : decide (60 < n1) = true := by simp; omega
  clear h1
  have HB := Lib.hid (Below.refl w.heap.size w)
  go_enter Try.func4, Try.ntmps4
  go_wp2_with fail
  refine (lives11_any _).mono ?_
  rintro e w1 ⟨rfl, hb⟩
  replace HB := Lib.hid (HB.out.trans (hb.mono HB.out.size))
  clear hb
  go_wp2_with fail
  go_ret
  exact ⟨rfl, HB.out⟩
set_option maxRecDepth 100000 in
set_option maxHeartbeats 12800000 in
theorem chlays_g2 (size : Int) (tx : Nat) (A1 : Option Addr) (n1 c1 : Nat) (ps : List Nat) (v : ByteArray) (A2 : Option Addr) (n2 c2 : Nat) (ns : List Nat) (f : Nat) (img : ByteArray) (A3 : Option Addr) (n3 c3 : Nat) (l : List Pg) (w : World) (h1 : ¬ 60 < n1) (h2 : 100 < n2) :
    Calls Try.prog 4 #[.int .i64 size, .int .u64 tx, .slice A1 n1 c1, .string v, .slice A2 n2 c2, .int .u32 f, .string img, .slice A3 n3 c3] w fun e w' => e = .returned (.bool true) ∧ Below w.heap.size w w' := by
  have g1 : decide ((60 : Int) < (n1 : Int)) = false := by simp; omega
  have g1b : decide (60 < n1) = false := by simp; omega
  have g2 : decide ((100 : Int) < (n2 : Int)) = true := by simp; omega
  have g2b : decide (100 < n2) = true := by simp; omega
  clear h1 h2
  have HB := Lib.hid (Below.refl w.heap.size w)
  go_enter Try.func4, Try.ntmps4
  go_wp2_with fail
  refine (lives11_any _).mono ?_
  rintro e w1 ⟨rfl, hb⟩
  replace HB := Lib.hid (HB.out.trans (hb.mono HB.out.size))
  clear hb
  go_wp2_with fail
  go_ret
  exact ⟨rfl, HB.out⟩
set_option maxRecDepth 100000 in
set_option maxHeartbeats 12800000 in
theorem chlays_g3 (size : Int) (tx : Nat) (A1 : Option Addr) (n1 c1 : Nat) (ps : List Nat) (v : ByteArray) (A2 : Option Addr) (n2 c2 : Nat) (ns : List Nat) (f : Nat) (img : ByteArray) (A3 : Option Addr) (n3 c3 : Nat) (l : List Pg) (w : World) (h1 : ¬ 60 < n1) (h2 : ¬ 100 < n2) (h3 : 4200 < v.size) :
    Calls Try.prog 4 #[.int .i64 size, .int .u64 tx, .slice A1 n1 c1, .string v, .slice A2 n2 c2, .int .u32 f, .string img, .slice A3 n3 c3] w fun e w' => e = .returned (.bool true) ∧ Below w.heap.size w w' := by
  have g1 : decide ((60 : Int) < (n1 : Int)) = false := by simp; omega
  have g1b : decide (60 < n1) = false := by simp; omega
  have g2 : decide ((100 : Int) < (n2 : Int)) = false := by simp; omega
  have g2b : decide (100 < n2) = false := by simp; omega
  have g3 : decide ((4200 : Int) < (v.size : Int)) = true := by simp; omega
  have g3b : decide (4200 < v.size) = true := by simp; omega
  clear h1 h2 h3
  have HB := Lib.hid (Below.refl w.heap.size w)
  go_enter Try.func4, Try.ntmps4
  go_wp2_with fail
  refine (lives11_any _).mono ?_
  rintro e w1 ⟨rfl, hb⟩
  replace HB := Lib.hid (HB.out.trans (hb.mono HB.out.size))
  clear hb
  go_wp2_with fail
  go_ret
  exact ⟨rfl, HB.out⟩
set_option maxRecDepth 100000 in
set_option maxHeartbeats 12800000 in
theorem chlays_g4 (size : Int) (tx : Nat) (A1 : Option Addr) (n1 c1 : Nat) (ps : List Nat) (v : ByteArray) (A2 : Option Addr) (n2 c2 : Nat) (ns : List Nat) (f : Nat) (img : ByteArray) (A3 : Option Addr) (n3 c3 : Nat) (l : List Pg) (w : World) (h1 : ¬ 60 < n1) (h2 : ¬ 100 < n2) (h3 : ¬ 4200 < v.size) (h4 : 4000 < img.size) :
    Calls Try.prog 4 #[.int .i64 size, .int .u64 tx, .slice A1 n1 c1, .string v, .slice A2 n2 c2, .int .u32 f, .string img, .slice A3 n3 c3] w fun e w' => e = .returned (.bool true) ∧ Below w.heap.size w w' := by
  have g1 : decide ((60 : Int) < (n1 : Int)) = false := by simp; omega
  have g1b : decide (60 < n1) = false := by simp; omega
  have g2 : decide ((100 : Int) < (n2 : Int)) = false := by simp; omega
  have g2b : decide (100 < n2) = false := by simp; omega
  have g3 : decide ((4200 : Int) < (v.size : Int)) = false := by simp; omega
  have g3b : decide (4200 < v.size) = false := by simp; omega
  have g4 : decide ((4000 : Int) < (img.size : Int)) = true := by simp; omega
  have g4b : decide (4000 < img.size) = true := by simp; omega
  clear h1 h2 h3 h4
  have HB := Lib.hid (Below.refl w.heap.size w)
  go_enter Try.func4, Try.ntmps4
  go_wp2_with fail
  refine (lives11_any _).mono ?_
  rintro e w1 ⟨rfl, hb⟩
  replace HB := Lib.hid (HB.out.trans (hb.mono HB.out.size))
  clear hb
  go_wp2_with fail
  go_ret
  exact ⟨rfl, HB.out⟩
set_option maxRecDepth 100000 in
set_option maxHeartbeats 12800000 in
theorem chlays_g5 (size : Int) (tx : Nat) (A1 : Option Addr) (n1 c1 : Nat) (ps : List Nat) (v : ByteArray) (A2 : Option Addr) (n2 c2 : Nat) (ns : List Nat) (f : Nat) (img : ByteArray) (A3 : Option Addr) (n3 c3 : Nat) (l : List Pg) (w : World) (h1 : ¬ 60 < n1) (h2 : ¬ 100 < n2) (h3 : ¬ 4200 < v.size) (h4 : ¬ 4000 < img.size) (h5 : 20 < n3) :
    Calls Try.prog 4 #[.int .i64 size, .int .u64 tx, .slice A1 n1 c1, .string v, .slice A2 n2 c2, .int .u32 f, .string img, .slice A3 n3 c3] w fun e w' => e = .returned (.bool true) ∧ Below w.heap.size w w' := by
  have g1 : decide ((60 : Int) < (n1 : Int)) = false := by simp; omega
  have g1b : decide (60 < n1) = false := by simp; omega
  have g2 : decide ((100 : Int) < (n2 : Int)) = false := by simp; omega
  have g2b : decide (100 < n2) = false := by simp; omega
  have g3 : decide ((4200 : Int) < (v.size : Int)) = false := by simp; omega
  have g3b : decide (4200 < v.size) = false := by simp; omega
  have g4 : decide ((4000 : Int) < (img.size : Int)) = false := by simp; omega
  have g4b : decide (4000 < img.size) = false := by simp; omega
  have g5 : decide ((20 : Int) < (n3 : Int)) = true := by simp; omega
  have g5b : decide (20 < n3) = true := by simp; omega
  clear h1 h2 h3 h4 h5
  have HB := Lib.hid (Below.refl w.heap.size w)
  go_enter Try.func4, Try.ntmps4
  go_wp2_with fail
  refine (lives11_any _).mono ?_
  rintro e w1 ⟨rfl, hb⟩
  replace HB := Lib.hid (HB.out.trans (hb.mono HB.out.size))
  clear hb
  go_wp2_with fail
  go_ret
  exact ⟨rfl, HB.out⟩
set_option maxRecDepth 100000 in
set_option maxHeartbeats 12800000 in
theorem chlays_main (size : Int) (tx : Nat) (A1 : Option Addr) (n1 c1 : Nat) (ps : List Nat) (v : ByteArray) (A2 : Option Addr) (n2 c2 : Nat) (ns : List Nat) (f : Nat) (img : ByteArray) (A3 : Option Addr) (n3 c3 : Nat) (l : List Pg) (w : World) (hr1 : Reads w w.heap.size 1 A1 n1 (ucells ps)) (hr2 : Reads w w.heap.size 1 A2 n2 (ucells ns)) (hcc : n2 ≤ c2) (hf : f < 4294967296) (hr3 : Reads w w.heap.size 6 A3 n3 (pgcs l)) (h1 : ¬ 60 < n1) (h2 : ¬ 100 < n2) (h3 : ¬ 4200 < v.size) (h4 : ¬ 4000 < img.size) (h5 : ¬ 20 < n3) :
    Calls Try.prog 4 #[.int .i64 size, .int .u64 tx, .slice A1 n1 c1, .string v, .slice A2 n2 c2, .int .u32 f, .string img, .slice A3 n3 c3] w fun e w' => e = .returned (.bool true) ∧ Below w.heap.size w w' := by
  have g1 : decide ((60 : Int) < (n1 : Int)) = false := by simp; omega
  have g1b : decide (60 < n1) = false := by simp; omega
  have g2 : decide ((100 : Int) < (n2 : Int)) = false := by simp; omega
  have g2b : decide (100 < n2) = false := by simp; omega
  have g3 : decide ((4200 : Int) < (v.size : Int)) = false := by simp; omega
  have g3b : decide (4200 < v.size) = false := by simp; omega
  have g4 : decide ((4000 : Int) < (img.size : Int)) = false := by simp; omega
  have g4b : decide (4000 < img.size) = false := by simp; omega
  have g5 : decide ((20 : Int) < (n3 : Int)) = false := by simp; omega
  have g5b : decide (20 < n3) = false := by simp; omega
  have HOc := fun (w : World) (h : Reads w w.heap.size 1 A1 n1 (ucells ps)) => (hon_gen distM size tx A1 n1 c1 ps v w h (by omega) (by omega) (by omega)).mono fun _ _ h => pgspost_any h
  have HOr := fun (w : World) (h : Reads w w.heap.size 1 A1 n1 (ucells ps)) => (ron_any size tx A1 n1 c1 ps v w h (by omega) (by omega)).mono fun _ _ h => pgspost_any h
  have HPc := fun (w : World) => (hpages_gen distM size tx f v w hf (by omega) (fun _ => needN_le _ _ (by omega))).mono fun _ _ h => pgspost_any h
  have HPr := fun (w : World) => (rpages11_any size tx f v w hf (by omega)).mono fun _ _ h => pgspost_any h
  have HLc := fun (w : World) (h : Reads w w.heap.size 1 A1 n1 (ucells ps)) (h' : Reads w w.heap.size 1 A2 n2 (ucells ns)) => (hlists_gen distM size tx A1 n1 c1 ps A2 n2 c2 ns w h (by omega) (by omega) h' (by omega) hcc).mono fun _ _ h => pgspost_any h
  have HLr := fun (w : World) (h : Reads w w.heap.size 1 A1 n1 (ucells ps)) (h' : Reads w w.heap.size 1 A2 n2 (ucells ns)) => (rlists_any size tx A1 n1 c1 ps A2 n2 c2 ns w h (by omega) h' (by omega) hcc).mono fun _ _ h => pgspost_any h
  have HYc := fun (w : World) (h : Reads w w.heap.size 6 A3 n3 (pgcs l)) => hlay_any size img A3 n3 c3 l w (by omega) h (by omega)
  have HYr := fun (w : World) (h : Reads w w.heap.size 6 A3 n3 (pgcs l)) => rlay11_any size img A3 n3 c3 l w (by omega) h (by omega)
  obtain ⟨OL, hOL⟩ : ∃ x, x = pgsL (onL size tx ps v) := ⟨_, rfl⟩
  obtain ⟨OE, hOE⟩ : ∃ x, x = pgsE (onL size tx ps v) := ⟨_, rfl⟩
  obtain ⟨PL, hPL⟩ : ∃ x, x = pgsL (pagesL size tx f v) := ⟨_, rfl⟩
  obtain ⟨PE, hPE⟩ : ∃ x, x = pgsE (pagesL size tx f v) := ⟨_, rfl⟩
  obtain ⟨LL, hLL⟩ : ∃ x, x = pgsL (listsL size tx ps ns) := ⟨_, rfl⟩
  obtain ⟨LE, hLE⟩ : ∃ x, x = pgsE (listsL size tx ps ns) := ⟨_, rfl⟩
  obtain ⟨YS, hYS⟩ : ∃ x, x = layStr size img l := ⟨_, rfl⟩
  obtain ⟨YE, hYE⟩ : ∃ x, x = layErr size img l := ⟨_, rfl⟩
  rw [← hOL, ← hOE] at HOc HOr
  rw [← hPL, ← hPE] at HPc HPr
  rw [← hLL, ← hLE] at HLc HLr
  rw [← hYS, ← hYE] at HYc HYr
  have hps := ulen hr1
  have MO := Lib.hid (show OL.length ≤ maxLen by rw [hOL]; have := onL_len (size := size) (tx := tx) (ps := ps) (v := v); unfold maxLen; omega)
  have MP := Lib.hid (show PL.length ≤ maxLen by rw [hPL]; have := pagesL_len (size := size) (tx := tx) (f := f) (v := v) (by omega); unfold maxLen; omega)
  have ML := Lib.hid (show LL.length ≤ maxLen by rw [hLL]; have := listsL_len (size := size) (tx := tx) (ps := ps) (ns := ns); unfold maxLen; omega)
  have heq := fun w => str_eqleq YS w
  have HR1 := Lib.hid hr1
  have HR2 := Lib.hid hr2
  have HR3 := Lib.hid hr3
  have HN3 := Lib.hid (show n3 ≤ 20 by omega)
  clear hr1 hr2 hr3 hOL hOE hPL hPE hLL hLE hYS hYE hps h1 h2 h3 h4 h5 hcc hf
  have HB := Lib.hid (Below.refl w.heap.size w)
  go_enter Try.func4, Try.ntmps4
  go_wp2_with fail
  refine (lives11_any _).mono ?_
  rintro e w1 ⟨rfl, hb⟩
  replace HB := Lib.hid (HB.out.trans (hb.mono HB.out.size))
  clear hb
  go_wp2_with fail
  clear g1 g1b g2 g2b g3 g3b g4 g4b g5 g5b
  replace HR1 := Lib.hid ((HR1.out.below HB.out).more HB.out.size)
  replace HR2 := Lib.hid ((HR2.out.below HB.out).more HB.out.size)
  replace HR3 := Lib.hid ((HR3.out.below HB.out).more HB.out.size)
  go_loopw [17] (fun i wr => ∃ k : Nat, k ≤ n3 ∧ i = .int .i64 k ∧ wr = w1) (fun i _ => n3 - (intOf i).toNat)
  case atStart => exact ⟨0, Nat.zero_le _, rfl, rfl⟩
  case round =>
    obtain ⟨k, hk, rfl, rfl⟩ := hrel
    have hn3 := HN3.out
    by_cases hlt : k < n3
    · obtain ⟨ad, x, rfl, _, hx, hc⟩ := page_at HR3.out hlt
      obtain ⟨_, _, d2, _, _, d5⟩ := hc
      have hk0 : (0 : Int) ≤ k := by omega
      have hk1 : (k : Int) < n3 := by omega
      clear hx
      by_cases q1 : 40 < x.pg
      · have e1 : decide ((40 : Int) < (x.pg : Int)) = true := by simp; omega
        have e2 : decide (40 < x.pg) = true := by simp; omega
        clear q1
        go_wp2_with fail
        go_ret
        exact ⟨rfl, HB.out⟩
      have e1 : decide ((40 : Int) < (x.pg : Int)) = false := by simp; omega
      have e2 : decide (40 < x.pg) = false := by simp; omega
      by_cases q2 : 600 < x.bd.size
      · have e3 : decide ((600 : Int) < (x.bd.size : Int)) = true := by simp; omega
        have e4 : decide (600 < x.bd.size) = true := by simp; omega
        clear q1 q2
        go_wp2_with fail
        go_ret
        exact ⟨rfl, HB.out⟩
      have e3 : decide ((600 : Int) < (x.bd.size : Int)) = false := by simp; omega
      have e4 : decide (600 < x.bd.size) = false := by simp; omega
      clear q1 q2
      go_wp2_with fail
      go_roundw
      case rel =>
        first
          | exact ⟨k + 1, by omega, by go_num, rfl⟩
          | exact ⟨k + 1, by omega, by go_num, trivial⟩
          | exact ⟨k + 1, by omega, by go_num⟩
          | ((repeat apply Exists.intro); exact ⟨⟨k + 1, by omega, by go_num⟩, rfl⟩)
      case measure => simp [intOf]; omega
    · obtain rfl : n3 = k := by omega
      clear hlt hk hn3
      go_wp2_with fail
      refine (HOc _ HR1.out).mono ?_
      rintro e x1 ⟨B1, m1, d1, rfl, hr1, hb⟩
      replace HB := Lib.hid (HB.out.trans (hb.mono HB.out.size))
      replace HR1 := Lib.hid ((HR1.out.below hb).more hb.size)
      replace HR2 := Lib.hid ((HR2.out.below hb).more hb.size)
      replace HR3 := Lib.hid ((HR3.out.below hb).more hb.size)
      have R1 := Lib.hid hr1
      clear hr1
      clear hb HOc
      go_wp2_with fail
      refine (HOr _ HR1.out).mono ?_
      rintro e x2 ⟨B2, m2, d2, rfl, hr2, hb⟩
      replace HB := Lib.hid (HB.out.trans (hb.mono HB.out.size))
      replace HR1 := Lib.hid ((HR1.out.below hb).more hb.size)
      replace HR2 := Lib.hid ((HR2.out.below hb).more hb.size)
      replace HR3 := Lib.hid ((HR3.out.below hb).more hb.size)
      replace R1 := Lib.hid ((R1.out.below hb).more hb.size)
      have R2 := Lib.hid hr2
      clear hr2
      clear hb HOr
      go_wp2_with fail
      refine (HPc _).mono ?_
      rintro e x3 ⟨B3, m3, d3, rfl, hr3, hb⟩
      replace HB := Lib.hid (HB.out.trans (hb.mono HB.out.size))
      replace HR1 := Lib.hid ((HR1.out.below hb).more hb.size)
      replace HR2 := Lib.hid ((HR2.out.below hb).more hb.size)
      replace HR3 := Lib.hid ((HR3.out.below hb).more hb.size)
      replace R1 := Lib.hid ((R1.out.below hb).more hb.size)
      replace R2 := Lib.hid ((R2.out.below hb).more hb.size)
      have R3 := Lib.hid hr3
      clear hr3
      clear hb HPc
      go_wp2_with fail
      refine (HPr _).mono ?_
      rintro e x4 ⟨B4, m4, d4, rfl, hr4, hb⟩
      replace HB := Lib.hid (HB.out.trans (hb.mono HB.out.size))
      replace HR1 := Lib.hid ((HR1.out.below hb).more hb.size)
      replace HR2 := Lib.hid ((HR2.out.below hb).more hb.size)
      replace HR3 := Lib.hid ((HR3.out.below hb).more hb.size)
      replace R1 := Lib.hid ((R1.out.below hb).more hb.size)
      replace R2 := Lib.hid ((R2.out.below hb).more hb.size)
      replace R3 := Lib.hid ((R3.out.below hb).more hb.size)
      have R4 := Lib.hid hr4
      clear hr4
      clear hb HPr
      go_wp2_with fail
      refine (HLc _ HR1.out HR2.out).mono ?_
      rintro e x5 ⟨B5, m5, d5, rfl, hr5, hb⟩
      replace HB := Lib.hid (HB.out.trans (hb.mono HB.out.size))
      replace HR1 := Lib.hid ((HR1.out.below hb).more hb.size)
      replace HR2 := Lib.hid ((HR2.out.below hb).more hb.size)
      replace HR3 := Lib.hid ((HR3.out.below hb).more hb.size)
      replace R1 := Lib.hid ((R1.out.below hb).more hb.size)
      replace R2 := Lib.hid ((R2.out.below hb).more hb.size)
      replace R3 := Lib.hid ((R3.out.below hb).more hb.size)
      replace R4 := Lib.hid ((R4.out.below hb).more hb.size)
      have R5 := Lib.hid hr5
      clear hr5
      clear hb HLc
      go_wp2_with fail
      refine (HLr _ HR1.out HR2.out).mono ?_
      rintro e x6 ⟨B6, m6, d6, rfl, hr6, hb⟩
      replace HB := Lib.hid (HB.out.trans (hb.mono HB.out.size))
      replace HR1 := Lib.hid ((HR1.out.below hb).more hb.size)
      replace HR2 := Lib.hid ((HR2.out.below hb).more hb.size)
      replace HR3 := Lib.hid ((HR3.out.below hb).more hb.size)
      replace R1 := Lib.hid ((R1.out.below hb).more hb.size)
      replace R2 := Lib.hid ((R2.out.below hb).more hb.size)
      replace R3 := Lib.hid ((R3.out.below hb).more hb.size)
      replace R4 := Lib.hid ((R4.out.below hb).more hb.size)
      replace R5 := Lib.hid ((R5.out.below hb).more hb.size)
      have R6 := Lib.hid hr6
      clear hr6
      clear hb HLr
      go_wp2_with fail
      refine (HYc _ HR3.out).mono ?_
      rintro e x7 ⟨rfl, hb⟩
      replace HB := Lib.hid (HB.out.trans (hb.mono HB.out.size))
      replace HR1 := Lib.hid ((HR1.out.below hb).more hb.size)
      replace HR2 := Lib.hid ((HR2.out.below hb).more hb.size)
      replace HR3 := Lib.hid ((HR3.out.below hb).more hb.size)
      replace R1 := Lib.hid ((R1.out.below hb).more hb.size)
      replace R2 := Lib.hid ((R2.out.below hb).more hb.size)
      replace R3 := Lib.hid ((R3.out.below hb).more hb.size)
      replace R4 := Lib.hid ((R4.out.below hb).more hb.size)
      replace R5 := Lib.hid ((R5.out.below hb).more hb.size)
      replace R6 := Lib.hid ((R6.out.below hb).more hb.size)
      clear hb HYc
      go_wp2_with fail
      refine (HYr _ HR3.out).mono ?_
      rintro e x8 ⟨rfl, hb⟩
      replace HB := Lib.hid (HB.out.trans (hb.mono HB.out.size))
      replace HR1 := Lib.hid ((HR1.out.below hb).more hb.size)
      replace HR2 := Lib.hid ((HR2.out.below hb).more hb.size)
      replace HR3 := Lib.hid ((HR3.out.below hb).more hb.size)
      replace R1 := Lib.hid ((R1.out.below hb).more hb.size)
      replace R2 := Lib.hid ((R2.out.below hb).more hb.size)
      replace R3 := Lib.hid ((R3.out.below hb).more hb.size)
      replace R4 := Lib.hid ((R4.out.below hb).more hb.size)
      replace R5 := Lib.hid ((R5.out.below hb).more hb.size)
      replace R6 := Lib.hid ((R6.out.below hb).more hb.size)
      clear hb HYr
      obtain rfl : m1 = m2 := (pgcs_len R1.out).symm.trans (pgcs_len R2.out)
      have M1 := Lib.hid (show m1 ≤ maxLen by rw [← pgcs_len R1.out]; exact MO.out)
      obtain rfl : m3 = m4 := (pgcs_len R3.out).symm.trans (pgcs_len R4.out)
      have M3 := Lib.hid (show m3 ≤ maxLen by rw [← pgcs_len R3.out]; exact MP.out)
      obtain rfl : m5 = m6 := (pgcs_len R5.out).symm.trans (pgcs_len R6.out)
      have M5 := Lib.hid (show m5 ≤ maxLen by rw [← pgcs_len R5.out]; exact ML.out)
      go_wp2_with fail
      refine (samePg_yes B1 m1 d1 B2 d2 OL _ R1.out R2.out M1.out).mono ?_
      rintro e y1 ⟨rfl, q1, hq⟩
      replace HB := Lib.hid (show Below w.heap.size w y1 by rw [hq]; exact below_drewN HB.out q1)
      replace R3 := Lib.hid (show Reads y1 y1.heap.size 6 B3 m3 (pgcs PL) by rw [hq]; exact R3.out.drewN q1)
      replace R4 := Lib.hid (show Reads y1 y1.heap.size 6 B4 m3 (pgcs PL) by rw [hq]; exact R4.out.drewN q1)
      replace R5 := Lib.hid (show Reads y1 y1.heap.size 6 B5 m5 (pgcs LL) by rw [hq]; exact R5.out.drewN q1)
      replace R6 := Lib.hid (show Reads y1 y1.heap.size 6 B6 m5 (pgcs LL) by rw [hq]; exact R6.out.drewN q1)
      clear hq
      go_wp2_with fail
      refine (samePg_yes B3 m3 d3 B4 d4 PL _ R3.out R4.out M3.out).mono ?_
      rintro e y3 ⟨rfl, q3, hq⟩
      replace HB := Lib.hid (show Below w.heap.size w y3 by rw [hq]; exact below_drewN HB.out q3)
      replace R5 := Lib.hid (show Reads y3 y3.heap.size 6 B5 m5 (pgcs LL) by rw [hq]; exact R5.out.drewN q3)
      replace R6 := Lib.hid (show Reads y3 y3.heap.size 6 B6 m5 (pgcs LL) by rw [hq]; exact R6.out.drewN q3)
      clear hq
      go_wp2_with fail
      refine (samePg_yes B5 m5 d5 B6 d6 LL _ R5.out R6.out M5.out).mono ?_
      rintro e y5 ⟨rfl, q5, hq⟩
      replace HB := Lib.hid (show Below w.heap.size w y5 by rw [hq]; exact below_drewN HB.out q5)
      clear hq
      go_wp2_with fail
      go_ret
      exact ⟨rfl, HB.out⟩
theorem chlays_walk (size tx0 : Int) (A1 : Option Addr) (n1 c1 : Nat) (zs1 : List Int) (v : ByteArray) (A2 : Option Addr) (n2 c2 : Nat) (zs2 : List Int) (f0 : Int) (img : ByteArray) (A3 : Option Addr) (n3 c3 : Nat) (l : List Pg) (w : World)
    (_h0 : (Lit.int .i64 size).wf = true) (h1 : (Lit.int .u64 tx0).wf = true) (hz1 : IsRow .u32 w A1 n1 c1 zs1) (_h3 : v.size ≤ maxLen) (hz2 : IsRow .u32 w A2 n2 c2 zs2) (h5 : (Lit.int .u32 f0).wf = true) (_h6 : img.size ≤ maxLen) (hl : Pgs w w.heap.size A3 n3 c3 l) :
    Calls Try.prog 4 #[.int .i64 size, .int .u64 tx0, .slice A1 n1 c1, .string v, .slice A2 n2 c2, .int .u32 f0, .string img, .slice A3 n3 c3] w fun e w' => e = .returned (.bool true) ∧ Below w.heap.size w w' := by
  obtain ⟨tx, rfl⟩ := Int.eq_ofNat_of_zero_le (bounds_u64 h1).1
  obtain ⟨f, rfl⟩ := Int.eq_ofNat_of_zero_le (lit_u32' h5).1
  have hf := (lit_u32' h5).2
  obtain ⟨ps, hr1, _, _, _⟩ := row_nats hz1
  obtain ⟨ns, hr2, hcc, _, _⟩ := row_nats hz2
  by_cases g1 : 60 < n1
  · exact chlays_g1 size tx A1 n1 c1 ps v A2 n2 c2 ns f img A3 n3 c3 l w g1
  by_cases g2 : 100 < n2
  · exact chlays_g2 size tx A1 n1 c1 ps v A2 n2 c2 ns f img A3 n3 c3 l w g1 g2
  by_cases g3 : 4200 < v.size
  · exact chlays_g3 size tx A1 n1 c1 ps v A2 n2 c2 ns f img A3 n3 c3 l w g1 g2 g3
  by_cases g4 : 4000 < img.size
  · exact chlays_g4 size tx A1 n1 c1 ps v A2 n2 c2 ns f img A3 n3 c3 l w g1 g2 g3 g4
  by_cases g5 : 20 < n3
  · exact chlays_g5 size tx A1 n1 c1 ps v A2 n2 c2 ns f img A3 n3 c3 l w g1 g2 g3 g4 g5
  exact chlays_main size tx A1 n1 c1 ps v A2 n2 c2 ns f img A3 n3 c3 l w hr1 hr2 hcc (by omega) hl.1 g1 g2 g3 g4 g5
end Go.Proofs.Ytabhhccdbfjigaa
