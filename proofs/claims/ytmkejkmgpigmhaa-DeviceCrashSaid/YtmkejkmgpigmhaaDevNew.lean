/-
  Contracts of package device's Good and New, each with its conditions in its own statement.
-/
import Derived.Test.YtmkejkmgpigmhaaDevSync
namespace Go.Proofs.Ytmkejkmgpigmhaa
open Go.RowKit
open Go.Lib hiding intOf
set_option linter.unusedVariables false
set_option linter.unusedSimpArgs false

/-- A page size is good. -/
def goodSize (n : Int) : Bool := decide (128 ≤ n) && decide (n ≤ 4096) && n % 64 == 0
theorem dgood_any (n : Int) (w : World) :
    Calls Try.prog 25 #[.int .i64 n] w fun e w' => e = .returned (.bool (goodSize n)) ∧ w = w' := by
  by_cases h1 : 128 ≤ n
  · by_cases h2 : n ≤ 4096
    · have h0 : 0 ≤ n := by omega
      by_cases h3 : n % 64 = 0
      · have h4 : (n % 64 == 0) = true := by simpa using h3
        have HG := Lib.hid (show goodSize n = true by simp [goodSize, h1, h2, h3])
        clear h3
        go_enter Try.func25, Try.ntmps25
        go_wp2
        go_ret
        exact ⟨by rw [HG.out]; rfl, rfl⟩
      · have h4 : (n % 64 == 0) = false := by simpa using h3
        have HG := Lib.hid (show goodSize n = false by simp [goodSize, h1, h2, h4])
        clear h3
        go_enter Try.func25, Try.ntmps25
        go_wp2
        go_ret
        exact ⟨by rw [HG.out]; rfl, rfl⟩
    · have HG := Lib.hid (show goodSize n = false by simp [goodSize, h2])
      go_enter Try.func25, Try.ntmps25
      go_wp2
      go_ret
      exact ⟨by rw [HG.out]; rfl, rfl⟩
  · have HG := Lib.hid (show goodSize n = false by simp [goodSize, h1])
    go_enter Try.func25, Try.ntmps25
    go_wp2
    go_ret
    exact ⟨by rw [HG.out]; rfl, rfl⟩

theorem dnew_bad (size cap : Int) (s : ByteArray) (w : World) (hg : goodSize size = false) :
    Calls Try.prog 11 #[.int .i64 size, .int .i64 cap, .string s] w fun e w' => e = .returned (.tuple #[.pointer none, .int .i64 2]) ∧ w = w' := by
  go_enter Try.func11, Try.ntmps11
  go_wp2_with (go_at_call 25; refine (dgood_any _ _).mono ?_; rw [hg]; rintro e w' ⟨rfl, rfl⟩)
  go_ret2
  exact ⟨rfl, rfl⟩
theorem dnew_cap (size cap : Int) (s : ByteArray) (w : World) (hg : goodSize size = true) (hc : cap < 2 ∨ 1048576 < cap) :
    Calls Try.prog 11 #[.int .i64 size, .int .i64 cap, .string s] w fun e w' => e = .returned (.tuple #[.pointer none, .int .i64 2]) ∧ w = w' := by
  rcases hc with hc | hc
  · go_enter Try.func11, Try.ntmps11
    go_wp2_with (go_at_call 25; refine (dgood_any _ _).mono ?_; rw [hg]; rintro e w' ⟨rfl, rfl⟩)
    go_ret2
    exact ⟨rfl, rfl⟩
  · have h2 : ¬ cap < 2 := by omega
    go_enter Try.func11, Try.ntmps11
    go_wp2_with (go_at_call 25; refine (dgood_any _ _).mono ?_; rw [hg]; rintro e w' ⟨rfl, rfl⟩)
    go_ret2
    exact ⟨rfl, rfl⟩
theorem good_pos {size : Nat} (h : goodSize size = true) : 128 ≤ size ∧ size ≤ 4096 := by
  simp [goodSize] at h
  omega
theorem dnew_full (size cap : Nat) (s : ByteArray) (w : World) (hg : goodSize size = true) (h1 : 2 ≤ cap) (h2 : cap ≤ 1048576) (hs : s.size ≤ maxLen) (hf : cap < s.size / size) :
    Calls Try.prog 11 #[.int .i64 size, .int .i64 cap, .string s] w fun e w' => e = .returned (.tuple #[.pointer none, .int .i64 9]) ∧ w = w' := by
  have hp := good_pos hg
  unfold maxLen at hs
  obtain ⟨m, hm⟩ : ∃ m, m = s.size / size := ⟨_, rfl⟩
  have hms : m ≤ s.size := by rw [hm]; exact Nat.div_le_self _ _
  rw [← hm] at hf
  have e0 : (s.size : Int) / (size : Int) = (m : Int) := by rw [hm, Int.natCast_ediv]
  clear hm
  go_enter Try.func11, Try.ntmps11
  go_wp2_with (go_at_call 25; refine (dgood_any _ _).mono ?_; rw [hg]; rintro e w' ⟨rfl, rfl⟩)
  go_ret2
  exact ⟨rfl, rfl⟩

theorem blk3 {w : World} {b : Nat} {t : TypeId} {x y z : Value} (h : Blk w b t #[x, y, z]) : w.cell? ⟨b, 0, none⟩ = some x ∧ w.cell? ⟨b, 1, none⟩ = some y ∧ w.cell? ⟨b, 2, none⟩ = some z :=
  ⟨h.cell 0, h.cell 1, h.cell 2⟩
/-- The new device's block, its pointer to itself not set yet. -/
def NewIn (w : World) (size cap : Nat) (s : ByteArray) (s9 : Value) (wx : World) : Prop :=
  ∃ g A' c' A c, s9 = .pointer (some ⟨g, 0, none⟩) ∧ w.heap.size ≤ g ∧ Below w.heap.size w wx ∧
    Blk wx g 70 #[.pointer none, .int .i64 size, .int .i64 cap, .string (zs size), .slice A' (s.size / size) c', .string (cutImg size s).rest, .string (zs size), .slice A (s.size / size) c, .string (cutImg size s).rest, .slice none 0 0, .int .i64 (-1), .int .i64 0] ∧
    wx.ownsRow w.heap.size 9 1 (.slice A' (s.size / size) c') (s.size / size) (strs (cutImg size s).pages) ∧
    wx.ownsRow w.heap.size 9 1 (.slice A (s.size / size) c) (s.size / size) (strs (cutImg size s).pages) ∧
    (∀ k, (Value.slice A' (s.size / size) c').ownBlock = some k → (Value.slice A (s.size / size) c).ownBlock ≠ some k)

set_option maxHeartbeats 3200000 in
theorem dnew_ok (size cap : Nat) (s : ByteArray) (w : World) (hg : goodSize size = true) (h1 : 2 ≤ cap) (h2 : cap ≤ 1048576) (hf : s.size / size ≤ cap) :
    Calls Try.prog 11 #[.int .i64 size, .int .i64 cap, .string s] w fun e w' => ∃ g, e = .returned (.tuple #[.pointer (some ⟨g, 0, none⟩), .int .i64 0]) ∧
      Dev w' (fun k => w.heap.size ≤ k ∧ k < w'.heap.size) g ⟨size, cap, s.data.toList, s.data.toList, [], -1, 0⟩ ∧ Below w.heap.size w w' := by
  have hp := good_pos hg
  obtain ⟨m, hm⟩ : ∃ m, m = s.size / size := ⟨_, rfl⟩
  have hlt2 : s.size < s.size / size * size + size := by have := Nat.lt_div_mul_add (a := s.size) (b := size) (by omega); omega
  have hmm : s.size / size * size ≤ 1048576 * 4096 := Nat.mul_le_mul (by omega) hp.2
  have hss : s.size ≤ 281474976710656 := by omega
  have e0 : (s.size : Int) / (size : Int) = (m : Int) := by rw [hm, Int.natCast_ediv]
  rw [← hm] at hf
  have HM := Lib.hid hm
  clear hm hmm hlt2
  go_enter Try.func11, Try.ntmps11
  go_wp2_with (first
    | (go_at_call 25; refine (dgood_any _ _).mono ?_; rw [hg]; rintro e w' ⟨rfl, rfl⟩)
    | (go_at_call 34; refine (sclone_any s _ hss).mono ?_; rintro e w1 ⟨rfl, hb1⟩)
    | (go_at_call 33
       refine (cut_any size s _ (by omega) hp.2 (by rw [← HM.out]; omega)).mono ?_
       rintro e w2 ⟨A, c, rfl, hown, hb2⟩))
  have hb12 := hb1.trans (hb2.mono hb1.size)
  have hown' : w2.ownsRow w.heap.size 9 1 (.slice A (s.size / size) c) (s.size / size) (strs (cutUp size (s.size / size) s)) := own_low hown hb1.size
  have hr2 : Reads (w2.alloc (.cells #[.string (zs size), .slice A (s.size / size) c, .string (s.extract (s.size / size * size) s.size)] 64)).drew (w2.heap.size + 1) 1 A (s.size / size) (strs (cutUp size (s.size / size) s)) := ((Reads.of_own hown').alloc (Nat.le_refl _) _).more (Nat.le_succ _)
  have hn : s.size / size ≤ 4294967296 := by have := HM.out; omega
  have HR := Lib.hid hr2
  have HB := Lib.hid hb12
  have HO := Lib.hid hown'
  clear hr2 hb12 hown' hown hb1 hb2
  go_cut [9] (fun s9 wx => NewIn w size cap s s9 wx)
  case first =>
    go_region_held3 (fun w' => w'.cell? ⟨w2.heap.size, 0, none⟩ = some (.string (zs size)) ∧ w'.cell? ⟨w2.heap.size, 1, none⟩ = some (.slice A (s.size / size) c) ∧ w'.cell? ⟨w2.heap.size, 2, none⟩ = some (.string (s.extract (s.size / size * size) s.size)))
      (first
        | exact blk3 ((Blk.new w2 _ _).drew)
        | exact blk3 h3
        | exact blk3 (h3.alloc _))
      (first
        | (go_at_call 35
           refine (iclone_any c (zs size) (s.extract (s.size / size * size) s.size) (HR.out.more (by simp)) hn).mono ?_
           rintro e w3 ⟨A', c', rfl, hown3, hb3⟩
           have h3 := ((Blk.new w2 64 #[.string (zs size), .slice A (s.size / size) c, .string (s.extract (s.size / size * size) s.size)]).drew).below hb3 (by simp)))
    go_wp2_with fail
    go_meet
    have hs3 : w2.heap.size + 1 ≤ w3.heap.size := by have := hb3.size; simpa using this
    have hs2 := HB.out.size
    have hbb : Below w.heap.size w w3 := (HB.out.alloc hs2 _).drew.trans (hb3.mono (by simp; omega))
    have ho2 : w3.ownsRow w.heap.size 9 1 (.slice A (s.size / size) c) (s.size / size) (strs (cutUp size (s.size / size) s)) :=
      (Kept.of_new (F := fun _ => False) hb3).own ((HO.out.alloc _).drew) (fun k e h => h)
    refine ⟨w3.heap.size, A', c', A, c, rfl, by omega, hbb.alloc hbb.size _, Blk.new _ _ _, (own_low hown3 (by simp; omega)).alloc _, ho2.alloc _, ?_⟩
    intro k e1 e2
    have h5 := (hown3.lt k e1).1
    have h6 := (HO.out.lt k e2).2
    simp at h5
    omega
  case rest =>
    obtain ⟨g, A', c', A, c, rfl, hg0, hb, hbk, ho1, ho2, hap⟩ := hcut
    have f0 := hbk.frozen 0
    have q0 := hbk.cell 0
    simp at q0
    have HX := Lib.hid ho1
    have HY := Lib.hid ho2
    have HA := Lib.hid hap
    clear ho1 ho2 hap e0
    go_wp2_with fail
    go_ret2
    have hg := good_pos hg
    have hgood := cutImg_good (size := size) (by omega) s
    have hbytes := cutImg_bytes size s
    have hbk2 := hbk.set_ 0 (.pointer (some ⟨g, 0, none⟩))
    have hne1 := own_ne_blk HX.out hbk (by decide)
    have hne2 := own_ne_blk HY.out hbk (by decide)
    have hlen : (cutImg size s).pages.length = s.size / size := cutUp_len _ _ _
    have hsz : (wc.setCell ⟨g, 0, none⟩ (.pointer (some ⟨g, 0, none⟩))).heap.size = wc.heap.size := by simp [World.setCell]
    refine ⟨g, rfl, ⟨cutImg size s, cutImg size s, A', s.size / size, c', A, s.size / size, c, none, 0, 0, fun _ => False, [], ?_⟩, hb.setCell hg0 _⟩
    exact
    { blk := hbk2
      own1 := ownsRow_setCell_other (own_base HX.out) hne1 _
      own2 := ownsRow_setCell_other (own_base HY.out) hne2 _
      own3 := World.ownsRow_nil _ _ _ _
      lo := by show 1 ≤ size; omega
      hi := hg.2
      capHi := h2
      good1 := hgood
      good2 := hgood
      b1 := hbytes
      b2 := hbytes
      p1 := by rw [hlen, ← HM.out]; exact hf
      p2 := by rw [hlen, ← HM.out]; exact hf
      np := rfl
      each := fun j o hj => by simp at hj
      few := Nat.zero_le _
      Fg := ⟨hg0, by rw [hsz]; exact hbk.lt⟩
      F1 := fun k e => ⟨⟨(HX.out.lt k e).1, by rw [hsz]; exact (HX.out.lt k e).2⟩, fun h => h⟩
      F2 := fun k e => ⟨⟨(HY.out.lt k e).1, by rw [hsz]; exact (HY.out.lt k e).2⟩, fun h => h⟩
      F3 := fun k e => by simp [Value.ownBlock] at e
      FX := fun k e => e.elim
      gX := fun h => h
      apart := HA.out
      Flt := fun k e => e.2 }
end Go.Proofs.Ytmkejkmgpigmhaa
