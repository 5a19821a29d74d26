/-
  What a device is in memory (Dev), and contracts of the methods that only read: each with its conditions in its own statement.
-/
import Derived.Test.YtmkejkmgpigmhaaDevWrite
import Derived.Laws.EntriesVeiled
namespace Go.Proofs.Ytmkejkmgpigmhaa
open Go.RowKit
open Go.Lib hiding intOf
set_option linter.unusedVariables false
set_option linter.unusedSimpArgs false

/-- A device, as the document tells of it. -/
structure DevS where
  size : Nat
  cap : Nat
  img : List UInt8
  dur : List UInt8
  pend : List POp
  fuse : Int
  ops : Nat

def devCells (g : Nat) (S : DevS) (A1 : Option Addr) (n1 c1 : Nat) (r1 : ByteArray) (A2 : Option Addr) (n2 c2 : Nat) (r2 : ByteArray) (A3 : Option Addr) (n3 c3 : Nat) : Array Value :=
  #[.pointer (some ⟨g, 0, none⟩), .int .i64 S.size, .int .i64 S.cap, .string (zs S.size), .slice A1 n1 c1, .string r1, .string (zs S.size), .slice A2 n2 c2, .string r2, .slice A3 n3 c3, .int .i64 S.fuse, .int .i64 S.ops]

/-- The device behind the pointer to block g; all that it uses lies in F. -/
structure DevAt (w : World) (F : Nat → Prop) (g : Nat) (S : DevS) (m1 m2 : Img) (A1 : Option Addr) (n1 c1 : Nat) (A2 : Option Addr) (n2 c2 : Nat) (A3 : Option Addr) (n3 c3 : Nat) (X : Nat → Prop) (pc : List Value) : Prop where
  blk : Blk w g 70 (devCells g S A1 n1 c1 m1.rest A2 n2 c2 m2.rest A3 n3 c3)
  own1 : w.ownsRow 0 9 1 (.slice A1 n1 c1) n1 (strs m1.pages)
  own2 : w.ownsRow 0 9 1 (.slice A2 n2 c2) n2 (strs m2.pages)
  own3 : w.ownsRow 0 74 1 (.slice A3 n3 c3) n3 pc
  lo : 1 ≤ S.size
  hi : S.size ≤ 4096
  capHi : S.cap ≤ 1048576
  good1 : m1.good S.size
  good2 : m2.good S.size
  b1 : m1.bytes = S.img
  b2 : m2.bytes = S.dur
  p1 : m1.pages.length ≤ S.cap
  p2 : m2.pages.length ≤ S.cap
  np : n3 = S.pend.length
  each : ∀ (j : Nat) (o : POp), S.pend[j]? = some o → o.ok S.size S.cap ∧ ∃ fv, pc[j]? = some fv ∧ IsOp w X fv o
  few : S.pend.length ≤ S.ops
  Fg : F g
  F1 : ∀ k, (Value.slice A1 n1 c1).ownBlock = some k → F k ∧ ¬ X k
  F2 : ∀ k, (Value.slice A2 n2 c2).ownBlock = some k → F k ∧ ¬ X k
  F3 : ∀ k, (Value.slice A3 n3 c3).ownBlock = some k → F k ∧ ¬ X k
  FX : ∀ k, X k → F k
  gX : ¬ X g
  apart : ∀ k, (Value.slice A1 n1 c1).ownBlock = some k → (Value.slice A2 n2 c2).ownBlock ≠ some k
  Flt : ∀ k, F k → k < w.heap.size
/-- The device behind the pointer to block g is S; all that it uses lies in F. -/
def Dev (w : World) (F : Nat → Prop) (g : Nat) (S : DevS) : Prop :=
  ∃ m1 m2 A1 n1 c1 A2 n2 c2 A3 n3 c3 X pc, DevAt w F g S m1 m2 A1 n1 c1 A2 n2 c2 A3 n3 c3 X pc
/-- F, and what has been made since. -/
def Grow (F : Nat → Prop) (w w' : World) (k : Nat) : Prop := F k ∨ (w.heap.size ≤ k ∧ k < w'.heap.size)

theorem IsOp.kept {G X : Nat → Prop} {w w' : World} {fv : Value} {o : POp} (h : IsOp w X fv o) (hk : Kept G w w') (hn : ∀ k, X k → ¬ G k) : IsOp w' X fv o := by
  cases o with
  | wr k b =>
    obtain ⟨x, y, hfv, hx, hy, h1, h2⟩ := h
    exact ⟨x, y, hfv, hk.blk hx (hn _ h1), hk.blk hy (hn _ h2), h1, h2⟩
  | tr k =>
    obtain ⟨x, hfv, hx, h1⟩ := h
    exact ⟨x, hfv, hk.blk hx (hn _ h1), h1⟩

section
variable {w w' : World} {F G : Nat → Prop} {g : Nat} {S : DevS} {m1 m2 : Img} {A1 : Option Addr} {n1 c1 : Nat} {A2 : Option Addr} {n2 c2 : Nat} {A3 : Option Addr} {n3 c3 : Nat} {X : Nat → Prop} {pc : List Value}
theorem DevAt.kept (h : DevAt w F g S m1 m2 A1 n1 c1 A2 n2 c2 A3 n3 c3 X pc) (hk : Kept G w w') (hn : ∀ k, F k → ¬ G k) : DevAt w' F g S m1 m2 A1 n1 c1 A2 n2 c2 A3 n3 c3 X pc :=
  { h with
    blk := hk.blk h.blk (hn _ h.Fg)
    own1 := hk.own h.own1 fun k e => hn _ (h.F1 k e).1
    own2 := hk.own h.own2 fun k e => hn _ (h.F2 k e).1
    own3 := hk.own h.own3 fun k e => hn _ (h.F3 k e).1
    each := fun j o hj => ⟨(h.each j o hj).1, by
      obtain ⟨fv, h1, h2⟩ := (h.each j o hj).2
      exact ⟨fv, h1, h2.kept hk fun k hx => hn _ (h.FX k hx)⟩⟩
    Flt := fun k hk' => Nat.lt_of_lt_of_le (h.Flt k hk') hk.size }
theorem Dev.kept (h : Dev w F g S) (hk : Kept G w w') (hn : ∀ k, F k → ¬ G k) : Dev w' F g S := by
  obtain ⟨m1, m2, A1, n1, c1, A2, n2, c2, A3, n3, c3, X, pc, h⟩ := h
  exact ⟨m1, m2, A1, n1, c1, A2, n2, c2, A3, n3, c3, X, pc, h.kept hk hn⟩
theorem Dev.lt (h : Dev w F g S) : ∀ k, F k → k < w.heap.size := by
  obtain ⟨m1, m2, A1, n1, c1, A2, n2, c2, A3, n3, c3, X, pc, h⟩ := h
  exact h.Flt
theorem Dev.new (h : Dev w F g S) (hb : Below w.heap.size w w') : Dev w' F g S :=
  h.kept (G := fun k => w.heap.size ≤ k) (Kept.of_below hb fun k h1 _ => h1) fun k hk => by have := h.lt k hk; omega
theorem Dev.wide (h : Dev w F g S) (hG : ∀ k, F k → G k) (hlt : ∀ k, G k → k < w.heap.size) : Dev w G g S := by
  obtain ⟨m1, m2, A1, n1, c1, A2, n2, c2, A3, n3, c3, X, pc, h⟩ := h
  exact ⟨m1, m2, A1, n1, c1, A2, n2, c2, A3, n3, c3, X, pc, { h with Fg := hG _ h.Fg, F1 := fun k e => ⟨hG _ (h.F1 k e).1, (h.F1 k e).2⟩, F2 := fun k e => ⟨hG _ (h.F2 k e).1, (h.F2 k e).2⟩, F3 := fun k e => ⟨hG _ (h.F3 k e).1, (h.F3 k e).2⟩, FX := fun k e => hG _ (h.FX k e), Flt := hlt }⟩
theorem DevAt.len1 (h : DevAt w F g S m1 m2 A1 n1 c1 A2 n2 c2 A3 n3 c3 X pc) : n1 = m1.pages.length := by have := h.own1.1; rw [strs_len] at this; omega
theorem DevAt.len2 (h : DevAt w F g S m1 m2 A1 n1 c1 A2 n2 c2 A3 n3 c3 X pc) : n2 = m2.pages.length := by have := h.own2.1; rw [strs_len] at this; omega
theorem DevAt.img1 (h : DevAt w F g S m1 m2 A1 n1 c1 A2 n2 c2 A3 n3 c3 X pc) : ImgIn w g 3 70 (devCells g S A1 n1 c1 m1.rest A2 n2 c2 m2.rest A3 n3 c3) S.size A1 n1 c1 m1 := ⟨h.blk, rfl, rfl, rfl, h.own1⟩
theorem DevAt.img2 (h : DevAt w F g S m1 m2 A1 n1 c1 A2 n2 c2 A3 n3 c3 X pc) : ImgIn w g 6 70 (devCells g S A1 n1 c1 m1.rest A2 n2 c2 m2.rest A3 n3 c3) S.size A2 n2 c2 m2 := ⟨h.blk, rfl, rfl, rfl, h.own2⟩
/-- The device's cells, as the walk meets them. -/
theorem dev_cells (h : Blk w g 70 (devCells g S A1 n1 c1 m1.rest A2 n2 c2 m2.rest A3 n3 c3)) :
    w.cell? ⟨g, 0, none⟩ = some (.pointer (some ⟨g, 0, none⟩)) ∧ w.cell? ⟨g, 1, none⟩ = some (.int .i64 S.size) ∧ w.cell? ⟨g, 2, none⟩ = some (.int .i64 S.cap) ∧
    w.cell? ⟨g, 3, none⟩ = some (.string (zs S.size)) ∧ w.cell? ⟨g, 4, none⟩ = some (.slice A1 n1 c1) ∧ w.cell? ⟨g, 5, none⟩ = some (.string m1.rest) ∧
    w.cell? ⟨g, 6, none⟩ = some (.string (zs S.size)) ∧ w.cell? ⟨g, 7, none⟩ = some (.slice A2 n2 c2) ∧ w.cell? ⟨g, 8, none⟩ = some (.string m2.rest) ∧
    w.cell? ⟨g, 9, none⟩ = some (.slice A3 n3 c3) ∧ w.cell? ⟨g, 10, none⟩ = some (.int .i64 S.fuse) ∧ w.cell? ⟨g, 11, none⟩ = some (.int .i64 S.ops) :=
  ⟨h.cell 0, h.cell 1, h.cell 2, h.cell 3, h.cell 4, h.cell 5, h.cell 6, h.cell 7, h.cell 8, h.cell 9, h.cell 10, h.cell 11⟩
end

theorem infoDev : (Try.prog.info? 70).map (fun i => i.size) = some 12 := by kernel_rfl
theorem dvalid_yes {w : World} {F : Nat → Prop} {g : Nat} {S : DevS} (h : Dev w F g S) :
    Calls Try.prog 36 #[.pointer (some ⟨g, 0, none⟩)] w fun e w' => e = .returned (.bool true) ∧ w = w' := by
  obtain ⟨m1, m2, A1, n1, c1, A2, n2, c2, A3, n3, c3, X, pc, h⟩ := h
  obtain ⟨c0, _⟩ := dev_cells h.blk
  have hi := infoDev
  obtain ⟨i0, hi0, hs⟩ := Option.map_eq_some_iff.1 hi
  have heq := run_eql_ptr_same w ⟨g, 0, none⟩ Try.underlying24 hi0
  clear hi
  go_enter Try.func36, Try.ntmps36
  go_wp2
  go_ret
  exact ⟨rfl, rfl⟩
theorem dvalid_nil {w : World} :
    Calls Try.prog 36 #[.pointer none] w fun e w' => e = .returned (.bool false) ∧ w = w' := by
  go_enter Try.func36, Try.ntmps36
  go_wp2
  go_ret
  exact ⟨rfl, rfl⟩
theorem dsize_any {w : World} {F : Nat → Prop} {g : Nat} {S : DevS} (h : Dev w F g S) :
    Calls Try.prog 22 #[.pointer (some ⟨g, 0, none⟩)] w fun e w' => e = .returned (.int .i64 S.size) ∧ w = w' := by
  have hv := dvalid_yes h
  obtain ⟨m1, m2, A1, n1, c1, A2, n2, c2, A3, n3, c3, X, pc, h⟩ := h
  obtain ⟨_, k1, _⟩ := dev_cells h.blk
  go_enter Try.func22, Try.ntmps22
  go_wp2_with (go_at_call 36; refine hv.mono ?_; rintro e w' ⟨rfl, rfl⟩)
  go_ret
  exact ⟨rfl, rfl⟩
theorem dcap_any {w : World} {F : Nat → Prop} {g : Nat} {S : DevS} (h : Dev w F g S) :
    Calls Try.prog 23 #[.pointer (some ⟨g, 0, none⟩)] w fun e w' => e = .returned (.int .i64 S.cap) ∧ w = w' := by
  have hv := dvalid_yes h
  obtain ⟨m1, m2, A1, n1, c1, A2, n2, c2, A3, n3, c3, X, pc, h⟩ := h
  obtain ⟨_, _, k2, _⟩ := dev_cells h.blk
  go_enter Try.func23, Try.ntmps23
  go_wp2_with (go_at_call 36; refine hv.mono ?_; rintro e w' ⟨rfl, rfl⟩)
  go_ret
  exact ⟨rfl, rfl⟩
theorem dops_any {w : World} {F : Nat → Prop} {g : Nat} {S : DevS} (h : Dev w F g S) :
    Calls Try.prog 21 #[.pointer (some ⟨g, 0, none⟩)] w fun e w' => e = .returned (.int .i64 S.ops) ∧ w = w' := by
  have hv := dvalid_yes h
  obtain ⟨m1, m2, A1, n1, c1, A2, n2, c2, A3, n3, c3, X, pc, h⟩ := h
  obtain ⟨_, _, _, _, _, _, _, _, _, _, _, k11⟩ := dev_cells h.blk
  go_enter Try.func21, Try.ntmps21
  go_wp2_with (go_at_call 36; refine hv.mono ?_; rintro e w' ⟨rfl, rfl⟩)
  go_ret
  exact ⟨rfl, rfl⟩
theorem dpages_any {w : World} {F : Nat → Prop} {g : Nat} {S : DevS} (h : Dev w F g S) :
    Calls Try.prog 24 #[.pointer (some ⟨g, 0, none⟩)] w fun e w' => e = .returned (.int .i64 ((S.img.length / S.size : Nat) : Int)) ∧ w = w' := by
  have hv := dvalid_yes h
  obtain ⟨m1, m2, A1, n1, c1, A2, n2, c2, A3, n3, c3, X, pc, h⟩ := h
  obtain ⟨_, _, _, _, k4, _⟩ := dev_cells h.blk
  have e := Img.count h.good1
  rw [h.b1, ← h.len1] at e
  have HE := Lib.hid e
  clear e
  go_enter Try.func24, Try.ntmps24
  go_wp2_with (go_at_call 36; refine hv.mono ?_; rintro e w' ⟨rfl, rfl⟩)
  go_ret
  exact ⟨by rw [HE.out]; rfl, rfl⟩
theorem dpending_any {w : World} {F : Nat → Prop} {g : Nat} {S : DevS} (h : Dev w F g S) :
    Calls Try.prog 15 #[.pointer (some ⟨g, 0, none⟩)] w fun e w' => e = .returned (.int .i64 ((S.pend.length : Nat) : Int)) ∧ w = w' := by
  have hv := dvalid_yes h
  obtain ⟨m1, m2, A1, n1, c1, A2, n2, c2, A3, n3, c3, X, pc, h⟩ := h
  obtain ⟨_, _, _, _, _, _, _, _, _, k9, _⟩ := dev_cells h.blk
  have HE := Lib.hid h.np
  go_enter Try.func15, Try.ntmps15
  go_wp2_with (go_at_call 36; refine hv.mono ?_; rintro e w' ⟨rfl, rfl⟩)
  go_ret
  exact ⟨by rw [← HE.out]; rfl, rfl⟩
theorem read_of_own {w : World} {B base n c : Nat} {e : TypeId} {A : Option Addr} {xs : List Value} (ho : w.ownsRow base e 1 (.slice A n c) n xs) (hB : w.heap.size ≤ B) : Reads w B 1 A n xs := (Reads.of_own ho).more hB
theorem dimage_any {w : World} {F : Nat → Prop} {g : Nat} {S : DevS} (h : Dev w F g S) :
    Calls Try.prog 18 #[.pointer (some ⟨g, 0, none⟩)] w fun e w' => e = .returned (.string ⟨S.img.toArray⟩) ∧ Below w.heap.size w w' := by
  have hv := dvalid_yes h
  obtain ⟨m1, m2, A1, n1, c1, A2, n2, c2, A3, n3, c3, X, pc, h⟩ := h
  obtain ⟨_, _, _, k3, k4, k5, _⟩ := dev_cells h.blk
  have HE := Lib.hid h.b1
  have h1 := h.len1
  have h2 := h.p1
  have h3 := h.capHi
  have hb := bytes_any c1 (zs S.size) m1.rest (read_of_own h.own1 (Nat.le_refl _)) (by omega) (by rw [zs_size]; exact h.hi) (by have := h.good1.2; have := h.hi; omega) (fun p hp => by rw [zs_size]; exact h.good1.1 p hp)
  clear h1
  go_enter Try.func18, Try.ntmps18
  go_wp2_with (first
    | (go_at_call 36; refine hv.mono ?_; rintro e w' ⟨rfl, rfl⟩)
    | (go_at_call 43; refine hb.mono ?_; rintro e w' ⟨rfl, hbw⟩))
  go_ret
  exact ⟨by rw [← HE.out]; rfl, hbw⟩
theorem ddurable_any {w : World} {F : Nat → Prop} {g : Nat} {S : DevS} (h : Dev w F g S) :
    Calls Try.prog 20 #[.pointer (some ⟨g, 0, none⟩)] w fun e w' => e = .returned (.string ⟨S.dur.toArray⟩) ∧ Below w.heap.size w w' := by
  have hv := dvalid_yes h
  obtain ⟨m1, m2, A1, n1, c1, A2, n2, c2, A3, n3, c3, X, pc, h⟩ := h
  obtain ⟨_, _, _, _, _, _, k6, k7, k8, _⟩ := dev_cells h.blk
  have HE := Lib.hid h.b2
  have h1 := h.len2
  have h2 := h.p2
  have h3 := h.capHi
  have hb := bytes_any c2 (zs S.size) m2.rest (read_of_own h.own2 (Nat.le_refl _)) (by omega) (by rw [zs_size]; exact h.hi) (by have := h.good2.2; have := h.hi; omega) (fun p hp => by rw [zs_size]; exact h.good2.1 p hp)
  clear h1
  go_enter Try.func20, Try.ntmps20
  go_wp2_with (first
    | (go_at_call 36; refine hv.mono ?_; rintro e w' ⟨rfl, rfl⟩)
    | (go_at_call 43; refine hb.mono ?_; rintro e w' ⟨rfl, hbw⟩))
  go_ret
  exact ⟨by rw [← HE.out]; rfl, hbw⟩
theorem dread_none {w : World} {F : Nat → Prop} {g : Nat} {S : DevS} (h : Dev w F g S) (k : Nat) (hk : S.img.length / S.size ≤ k) :
    Calls Try.prog 12 #[.pointer (some ⟨g, 0, none⟩), .int .u32 k] w fun e w' => e = .returned (.tuple #[.string ⟨#[]⟩, .int .i64 5]) ∧ w = w' := by
  have hv := dvalid_yes h
  obtain ⟨m1, m2, A1, n1, c1, A2, n2, c2, A3, n3, c3, X, pc, h⟩ := h
  obtain ⟨_, _, _, _, k4, _⟩ := dev_cells h.blk
  have e := Img.count h.good1
  rw [h.b1, ← h.len1] at e
  have hkn : n1 ≤ k := by omega
  have hn : n1 ≤ 1048576 := by have := h.p1; have := h.capHi; have := h.len1; omega
  have HE := Lib.hid e
  clear e hk
  go_enter Try.func12, Try.ntmps12
  go_wp2_with (go_at_call 36; refine hv.mono ?_; rintro e w' ⟨rfl, rfl⟩)
  go_ret2
  exact ⟨rfl, rfl⟩
theorem dread_ok {w : World} {F : Nat → Prop} {g : Nat} {S : DevS} (h : Dev w F g S) (k : Nat) (hk : k < S.img.length / S.size) :
    Calls Try.prog 12 #[.pointer (some ⟨g, 0, none⟩), .int .u32 k] w fun e w' => e = .returned (.tuple #[.string ⟨((S.img.drop (k * S.size)).take S.size).toArray⟩, .int .i64 0]) ∧ w = w' := by
  have hv := dvalid_yes h
  obtain ⟨m1, m2, A1, n1, c1, A2, n2, c2, A3, n3, c3, X, pc, h⟩ := h
  obtain ⟨_, _, _, _, k4, _⟩ := dev_cells h.blk
  have e := Img.count h.good1
  rw [h.b1, ← h.len1] at e
  have hkn : k < n1 := by omega
  have hn : n1 ≤ 1048576 := by have := h.p1; have := h.capHi; have := h.len1; omega
  have hkl : k < m1.pages.length := by have := h.len1; omega
  have hp := Img.page h.good1 hkl
  rw [h.b1] at hp
  have e2 : m1.pages[k] = ⟨((S.img.drop (k * S.size)).take S.size).toArray⟩ := by
    apply ByteArray.ext
    rw [← hp, Array.toArray_toList]
  have HE := Lib.hid e
  obtain ⟨gg, cap, hvv, _, hlt⟩ := h.own1.form (by omega)
  injection hvv with e1 e3 e4
  subst e1 e4
  have q1 : w.cell? ⟨gg, k, none⟩ = some (.string ⟨((S.img.drop (k * S.size)).take S.size).toArray⟩) := by rw [own_str h.own1 hkl, e2]
  have b0 : (0 : Int) ≤ k := by omega
  have b1 : (k : Int) < n1 := by omega
  clear e hk hp e2 e3 hkl
  go_enter Try.func12, Try.ntmps12
  go_wp2_with (go_at_call 36; refine hv.mono ?_; rintro e w' ⟨rfl, rfl⟩)
  go_ret2
  exact ⟨rfl, rfl⟩
end Go.Proofs.Ytmkejkmgpigmhaa
