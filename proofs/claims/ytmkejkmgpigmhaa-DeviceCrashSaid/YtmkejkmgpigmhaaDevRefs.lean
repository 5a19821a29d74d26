/-
  Contracts of the reference's methods, each with its conditions in its own statement.
-/
import Derived.Test.YtmkejkmgpigmhaaDevRef
namespace Go.Proofs.Ytmkejkmgpigmhaa
open Go.RowKit
open Go.Lib hiding intOf
set_option linter.unusedVariables false
set_option linter.unusedSimpArgs false

section
variable {w w' : World} {F G : Nat → Prop} {g : Nat} {S : DevS} {D I : ByteArray} {A : Option Addr} {n c : Nat}
theorem rpages_any (h : Ref w F g S) :
    Calls Try.prog 30 #[.pointer (some ⟨g, 0, none⟩)] w fun e w' => e = .returned (.int .i64 ((S.img.length / S.size : Nat) : Int)) ∧ Below w.heap.size w w' := by
  obtain ⟨D, I, A, n, c, h⟩ := h
  obtain ⟨k0, _, _, _, k4, _, _⟩ := ref_cells h.blk
  have hl := size_list I
  rw [h.img] at hl
  have HE := Lib.hid (show ((S.img.length / S.size : Nat) : Int) = (I.size : Int) / 128 by rw [hl, h.sz]; rfl)
  have hIL : I.size ≤ 4294967296 := by have h1 := h.il; have h2 := h.capHi; omega
  clear hl
  go_enter Try.func30, Try.ntmps30
  go_wp2_with fail
  go_quiet (fail)
  go_wp2_with fail
  go_ret
  exact ⟨by rw [HE.out]; rfl, below_drewN (Below.refl _ _) _⟩
theorem rwrite_arg (h : Ref w F g S) (k : Nat) (b : ByteArray) (hb : b.size ≠ 128) :
    Calls Try.prog 46 #[.pointer (some ⟨g, 0, none⟩), .int .u32 k, .string b] w fun e w' => e = .returned (.int .i64 2) ∧ w = w' := by
  obtain ⟨D, I, A, n, c, h⟩ := h
  obtain ⟨k0, k1, _⟩ := ref_cells h.blk
  have hcap := h.capHi
  have hbb : ((b.size : Int) != 128) = true := by simp; omega
  clear hb
  go_enter Try.func46, Try.ntmps46
  go_wp2_with fail
  go_ret
  exact ⟨rfl, rfl⟩
theorem rwrite_full (h : Ref w F g S) (k : Nat) (b : ByteArray) (hb : b.size = 128) (hk : S.cap ≤ k) (hk32 : k ≤ 4294967295) :
    Calls Try.prog 46 #[.pointer (some ⟨g, 0, none⟩), .int .u32 k, .string b] w fun e w' => e = .returned (.int .i64 9) ∧ w = w' := by
  obtain ⟨D, I, A, n, c, h⟩ := h
  obtain ⟨k0, k1, _⟩ := ref_cells h.blk
  have hcap := h.capHi
  have hbb : ((b.size : Int) != 128) = false := by simp; omega
  clear hb
  go_enter Try.func46, Try.ntmps46
  go_wp2_with fail
  go_ret
  exact ⟨rfl, rfl⟩
theorem rwrite_yes (h : Ref w F g S) (k : Nat) (b : ByteArray) (hb : b.size = 128) (hk : k < S.cap) (hf : S.fuse ≠ 0) (hhi : S.fuse ≤ 9223372036854775807) (hops : S.ops ≤ 4294967296) :
    Calls Try.prog 46 #[.pointer (some ⟨g, 0, none⟩), .int .u32 k, .string b] w fun e w' => e = .returned (.int .i64 0) ∧ Ref w' (Grow F w w') g { S with img := bWrite 128 k b.data.toList S.img, pend := S.pend ++ [.wr k b], fuse := burn S.fuse, ops := S.ops + 1 } ∧ Kept F w w' := by
  obtain ⟨D, I, A, n, c, h⟩ := h
  obtain ⟨k0, k1, _⟩ := ref_cells h.blk
  have hcap := h.capHi
  have hd := rop_wr h k b hb hk hf hhi hops
  have hbb : ((b.size : Int) != 128) = false := by simp; omega
  clear hb hf
  go_enter Try.func46, Try.ntmps46
  go_wp2_with fail
  refine hd.mono ?_
  rintro e w1 ⟨rfl, h1, h2⟩
  go_wp2_with fail
  go_ret
  exact ⟨rfl, h1, h2⟩
theorem rdoes_no (h : RefAt w F g S D I A n c) (o : POp) (cs : Array Value) (hcs : cs = (opCells o).toArray) (hf : S.fuse = 0) :
    Calls Try.prog 61 #[.pointer (some ⟨g, 0, none⟩), .agg cs] w fun e w' => e = .returned (.int .i64 8) ∧ Below w.heap.size w w' := by
  have hb : Below w.heap.size w (w.alloc (.cells cs 89)) := (Below.refl _ _).alloc (Nat.le_refl _) _
  have hs1 := rspend_no (h.new hb) hf
  have HB := Lib.hid hb
  clear hb hf hcs
  go_enter Try.func61, Try.ntmps61
  go_wp2_with fail
  refine hs1.mono ?_
  rintro e w1 ⟨rfl, rfl⟩
  go_wp2_with fail
  go_ret
  exact ⟨rfl, HB.out⟩
theorem rwrite_no (h : Ref w F g S) (k : Nat) (b : ByteArray) (hb : b.size = 128) (hk : k < S.cap) (hf : S.fuse = 0) :
    Calls Try.prog 46 #[.pointer (some ⟨g, 0, none⟩), .int .u32 k, .string b] w fun e w' => e = .returned (.int .i64 8) ∧ Below w.heap.size w w' := by
  obtain ⟨D, I, A, n, c, h⟩ := h
  obtain ⟨k0, k1, _⟩ := ref_cells h.blk
  have hcap := h.capHi
  have hd := rdoes_no h (.wr k b) #[.bool false, .int .u32 k, .string b] rfl hf
  have hbb : ((b.size : Int) != 128) = false := by simp; omega
  clear hb hf
  go_enter Try.func46, Try.ntmps46
  go_wp2_with fail
  refine hd.mono ?_
  rintro e w1 ⟨rfl, h1⟩
  go_wp2_with fail
  go_ret
  exact ⟨rfl, h1⟩
theorem rtrunc_arg (h : Ref w F g S) (k : Nat) (hk : S.cap < k) (hk32 : k ≤ 4294967295) :
    Calls Try.prog 47 #[.pointer (some ⟨g, 0, none⟩), .int .u32 k] w fun e w' => e = .returned (.int .i64 2) ∧ w = w' := by
  obtain ⟨D, I, A, n, c, h⟩ := h
  obtain ⟨k0, k1, _⟩ := ref_cells h.blk
  have hcap := h.capHi
  go_enter Try.func47, Try.ntmps47
  go_wp2_with fail
  go_ret
  exact ⟨rfl, rfl⟩
theorem rtrunc_no (h : Ref w F g S) (k : Nat) (hk : k ≤ S.cap) (hf : S.fuse = 0) :
    Calls Try.prog 47 #[.pointer (some ⟨g, 0, none⟩), .int .u32 k] w fun e w' => e = .returned (.int .i64 8) ∧ Below w.heap.size w w' := by
  obtain ⟨D, I, A, n, c, h⟩ := h
  obtain ⟨k0, k1, _⟩ := ref_cells h.blk
  have hcap := h.capHi
  have hd := rdoes_no h (.tr k) #[.bool true, .int .u32 k, .string ⟨#[]⟩] rfl hf
  clear hf
  go_enter Try.func47, Try.ntmps47
  go_wp2_with fail
  refine hd.mono ?_
  rintro e w1 ⟨rfl, h1⟩
  go_wp2_with fail
  go_ret
  exact ⟨rfl, h1⟩
theorem rtrunc_yes (h : Ref w F g S) (k : Nat) (hk : k ≤ S.cap) (hf : S.fuse ≠ 0) (hhi : S.fuse ≤ 9223372036854775807) (hops : S.ops ≤ 4294967296) :
    Calls Try.prog 47 #[.pointer (some ⟨g, 0, none⟩), .int .u32 k] w fun e w' => e = .returned (.int .i64 0) ∧ Ref w' (Grow F w w') g { S with img := bCut 128 k S.img, pend := S.pend ++ [.tr k], fuse := burn S.fuse, ops := S.ops + 1 } ∧ Kept F w w' := by
  obtain ⟨D, I, A, n, c, h⟩ := h
  obtain ⟨k0, k1, _⟩ := ref_cells h.blk
  have hcap := h.capHi
  have hd := rop_tr h k hk hf hhi hops
  clear hf
  go_enter Try.func47, Try.ntmps47
  go_wp2_with fail
  refine hd.mono ?_
  rintro e w1 ⟨rfl, h1, h2⟩
  go_wp2_with fail
  go_ret
  exact ⟨rfl, h1, h2⟩
theorem rsync_no (h : Ref w F g S) (hf : S.fuse = 0) :
    Calls Try.prog 48 #[.pointer (some ⟨g, 0, none⟩)] w fun e w' => e = .returned (.int .i64 8) ∧ w = w' := by
  obtain ⟨D, I, A, n, c, h⟩ := h
  have hs1 := rspend_no h hf
  clear hf
  go_enter Try.func48, Try.ntmps48
  go_wp2_with fail
  refine hs1.mono ?_
  rintro e w1 ⟨rfl, rfl⟩
  go_wp2_with fail
  go_ret
  exact ⟨rfl, rfl⟩
theorem rsync_yes (h : Ref w F g S) (hf : S.fuse ≠ 0) (hhi : S.fuse ≤ 9223372036854775807) (hops : S.ops ≤ 4294967296) :
    Calls Try.prog 48 #[.pointer (some ⟨g, 0, none⟩)] w fun e w' => e = .returned (.int .i64 0) ∧ Ref w' F g { S with dur := S.img, pend := [], fuse := burn S.fuse, ops := S.ops + 1 } ∧ Kept F w w' := by
  obtain ⟨D, I, A, n, c, h⟩ := h
  have hs1 := rspend_yes h hf hhi hops
  clear hf
  go_enter Try.func48, Try.ntmps48
  go_wp2_with fail
  refine hs1.mono ?_
  rintro e w1 ⟨rfl, h1, hk1⟩
  obtain ⟨_, _, k2, k3, k4, _, _⟩ := ref_cells h1.blk
  have f2 := h1.blk.frozen 2
  have f3 := h1.blk.frozen 3
  go_wp2_with fail
  go_ret
  refine ⟨rfl, ⟨I, I, none, 0, 0, { h1 with
    blk := (h1.blk.set_ 2 _).set_ 3 _
    own := World.ownsRow_nil _ _ _ _
    dur := h1.img
    np := rfl
    each := fun o ho => by simp at ho
    dl := h1.il
    few := Nat.zero_le _
    F1 := fun k hk => by simp [Value.ownBlock] at hk
    Flt := fun k hk' => by have := h1.Flt k hk'; simpa [World.setCell] using this }⟩, (hk1.setCell (.inl h.Fg) _).setCell (.inl h.Fg) _⟩
theorem rfuse_any (h : Ref w F g S) (z : Int) :
    Calls Try.prog 51 #[.pointer (some ⟨g, 0, none⟩), .int .i64 z] w fun e w' => e = .returned (.tuple #[]) ∧ Ref w' F g { S with fuse := z } ∧ Kept F w w' := by
  obtain ⟨D, I, A, n, c, h⟩ := h
  obtain ⟨_, _, _, _, _, k5, _⟩ := ref_cells h.blk
  have f5 := h.blk.frozen 5
  go_enter Try.func51, Try.ntmps51
  go_wp2_with fail
  go_end0
  exact ⟨rfl, ⟨D, I, A, n, c, h.store 5 _ rfl rfl rfl rfl rfl rfl (Nat.le_refl _)⟩, (Kept.refl _ _).setCell (.inl h.Fg) _⟩
theorem rread_none (h : Ref w F g S) (k : Nat) (hk : S.img.length / S.size ≤ k) (hk32 : k ≤ 4294967295) :
    Calls Try.prog 49 #[.pointer (some ⟨g, 0, none⟩), .int .u32 k] w fun e w' => e = .returned (.tuple #[.string ⟨#[]⟩, .int .i64 5]) ∧ Below w.heap.size w w' := by
  obtain ⟨p, hp⟩ : ∃ p, p = S.img.length / S.size := ⟨_, rfl⟩
  have hpg := rpages_any h
  rw [← hp] at hpg hk
  clear hp
  go_enter Try.func49, Try.ntmps49
  go_wp2_with fail
  refine hpg.mono ?_
  rintro e w1 ⟨rfl, hb1⟩
  go_wp2_with fail
  go_ret2
  exact ⟨rfl, hb1⟩
theorem rread_ok (h : Ref w F g S) (k : Nat) (hk : k < S.img.length / S.size) :
    Calls Try.prog 49 #[.pointer (some ⟨g, 0, none⟩), .int .u32 k] w fun e w' => e = .returned (.tuple #[.string ⟨((S.img.drop (k * S.size)).take S.size).toArray⟩, .int .i64 0]) ∧ Below w.heap.size w w' := by
  have hpg := rpages_any h
  obtain ⟨D, I, A, n, c, h⟩ := h
  obtain ⟨p, hp⟩ : ∃ p, p = S.img.length / S.size := ⟨_, rfl⟩
  rw [← hp] at hpg hk
  have hl := size_list I
  rw [h.img] at hl
  have hle : p * 128 ≤ I.size := by rw [hp, h.sz, hl]; exact Nat.div_mul_le_self _ _
  have hc := h.capHi
  have hil := h.il
  have hx : I.extract (k * 128) (k * 128 + 128) = ⟨((S.img.drop (k * S.size)).take S.size).toArray⟩ := by
    apply bytes_ext
    rw [ext_list, h.img, h.sz]
    simp
  have HX := Lib.hid hx
  have hkI : k * 128 + 128 ≤ I.size := by omega
  have hIL : I.size ≤ 4294967296 := by omega
  clear hx hp hl
  go_enter Try.func49, Try.ntmps49
  go_wp2_with fail
  refine hpg.mono ?_
  rintro e w1 ⟨rfl, hb1⟩
  obtain ⟨k0, _, _, _, k4, _, _⟩ := ref_cells (h.new hb1).blk
  go_wp2_with fail
  go_quiet (fail)
  go_wp2_with fail
  go_ret2
  exact ⟨by rw [← HX.out]; rfl, below_drewN hb1 _⟩
end
theorem rgood_any (n : Int) (w : World) :
    Calls Try.prog 27 #[.int .i64 n] w fun e w' => e = .returned (.bool (goodSize n)) ∧ w = w' := by
  by_cases h1 : 128 ≤ n
  · by_cases h2 : n ≤ 4096
    · have h0 : 0 ≤ n := by omega
      by_cases h3 : n % 64 = 0
      · have h4 : (n % 64 == 0) = true := by simpa using h3
        have HG := Lib.hid (show goodSize n = true by simp [goodSize, h1, h2, h3])
        clear h3
        go_enter Try.func27, Try.ntmps27
        go_wp2
        go_ret
        exact ⟨by rw [HG.out]; rfl, rfl⟩
      · have h4 : (n % 64 == 0) = false := by simpa using h3
        have HG := Lib.hid (show goodSize n = false by simp [goodSize, h1, h2, h4])
        clear h3
        go_enter Try.func27, Try.ntmps27
        go_wp2
        go_ret
        exact ⟨by rw [HG.out]; rfl, rfl⟩
    · have HG := Lib.hid (show goodSize n = false by simp [goodSize, h2])
      go_enter Try.func27, Try.ntmps27
      go_wp2
      go_ret
      exact ⟨by rw [HG.out]; rfl, rfl⟩
  · have HG := Lib.hid (show goodSize n = false by simp [goodSize, h1])
    go_enter Try.func27, Try.ntmps27
    go_wp2
    go_ret
    exact ⟨by rw [HG.out]; rfl, rfl⟩
theorem rnew_bad (size cap : Int) (s : ByteArray) (w : World) (hg : goodSize size = false) :
    Calls Try.prog 28 #[.int .i64 size, .int .i64 cap, .string s] w fun e w' => e = .returned (.tuple #[.pointer none, .int .i64 2]) ∧ w = w' := by
  go_enter Try.func28, Try.ntmps28
  go_wp2_with (go_at_call 27; refine (rgood_any _ _).mono ?_; rw [hg]; rintro e w' ⟨rfl, rfl⟩)
  go_ret2
  exact ⟨rfl, rfl⟩
theorem rnew_cap (size cap : Int) (s : ByteArray) (w : World) (hg : goodSize size = true) (hc : cap < 2 ∨ 1048576 < cap) :
    Calls Try.prog 28 #[.int .i64 size, .int .i64 cap, .string s] w fun e w' => e = .returned (.tuple #[.pointer none, .int .i64 2]) ∧ w = w' := by
  rcases hc with hc | hc
  · go_enter Try.func28, Try.ntmps28
    go_wp2_with (go_at_call 27; refine (rgood_any _ _).mono ?_; rw [hg]; rintro e w' ⟨rfl, rfl⟩)
    go_ret2
    exact ⟨rfl, rfl⟩
  · have h2 : ¬ cap < 2 := by omega
    go_enter Try.func28, Try.ntmps28
    go_wp2_with (go_at_call 27; refine (rgood_any _ _).mono ?_; rw [hg]; rintro e w' ⟨rfl, rfl⟩)
    go_ret2
    exact ⟨rfl, rfl⟩
theorem rnew_full (cap : Nat) (s : ByteArray) (w : World) (h1 : 2 ≤ cap) (h2 : cap ≤ 1048576) (hs : s.size ≤ maxLen) (hf : cap < s.size / 128) :
    Calls Try.prog 28 #[.int .i64 128, .int .i64 cap, .string s] w fun e w' => e = .returned (.tuple #[.pointer none, .int .i64 9]) ∧ w = w' := by
  unfold maxLen at hs
  have hg : goodSize 128 = true := by decide
  obtain ⟨m, hm⟩ : ∃ m, m = s.size / 128 := ⟨_, rfl⟩
  have hms : m ≤ s.size := by rw [hm]; exact Nat.div_le_self _ _
  rw [← hm] at hf
  have e0 : (s.size : Int) / 128 = (m : Int) := by omega
  clear hm
  go_enter Try.func28, Try.ntmps28
  go_wp2_with (go_at_call 27; refine (rgood_any _ _).mono ?_; rw [hg]; rintro e w' ⟨rfl, rfl⟩)
  go_ret2
  exact ⟨rfl, rfl⟩
theorem rnew_ok (cap : Nat) (s : ByteArray) (w : World) (h1 : 2 ≤ cap) (h2 : cap ≤ 1048576) (hs : s.size / 128 ≤ cap) :
    Calls Try.prog 28 #[.int .i64 128, .int .i64 cap, .string s] w fun e w' => ∃ g, e = .returned (.tuple #[.pointer (some ⟨g, 0, none⟩), .int .i64 0]) ∧
      Ref w' (fun k => k = g) g ⟨128, cap, s.data.toList, s.data.toList, [], -1, 0⟩ ∧ w.heap.size ≤ g ∧ Below w.heap.size w w' := by
  have hg : goodSize 128 = true := by decide
  have hsl : s.size < cap * 128 + 128 := by omega
  have HSL := Lib.hid hsl
  obtain ⟨m, hm⟩ : ∃ m, m = s.size / 128 := ⟨_, rfl⟩
  have hms : m ≤ s.size := by rw [hm]; exact Nat.div_le_self _ _
  rw [← hm] at hs
  have e0 : (s.size : Int) / 128 = (m : Int) := by omega
  clear hm hsl
  go_enter Try.func28, Try.ntmps28
  go_wp2_with (go_at_call 27; refine (rgood_any _ _).mono ?_; rw [hg]; rintro e w' ⟨rfl, rfl⟩)
  go_ret2
  refine ⟨w.heap.size, rfl, ⟨s, s, none, 0, 0, ?_⟩, Nat.le_refl _, (Below.refl _ _).alloc (Nat.le_refl _) _⟩
  exact
  { blk := Blk.new w _ _
    own := World.ownsRow_nil _ _ _ _
    sz := rfl
    capHi := h2
    dur := rfl
    img := rfl
    np := rfl
    each := fun o ho => by simp at ho
    dl := by show s.data.toList.length < cap * 128 + 128; rw [size_list]; exact HSL.out
    il := by show s.data.toList.length < cap * 128 + 128; rw [size_list]; exact HSL.out
    few := Nat.le_refl _
    Fg := rfl
    F1 := fun k hk => by simp [Value.ownBlock] at hk
    Flt := fun k hk => by subst hk; simp }
end Go.Proofs.Ytmkejkmgpigmhaa
