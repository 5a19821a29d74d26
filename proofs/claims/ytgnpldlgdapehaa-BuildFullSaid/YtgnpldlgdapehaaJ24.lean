/-
  Contracts of leaf.listed, its closures, and leaf.Page.
-/
import Derived.Test.YtgnpldlgdapehaaJ23
import Derived.Test.YtgnpldlgdapehaaJ15
import Derived.Test.YtgnpldlgdapehaaJ2
import Derived.Lib.AppendStr
import Derived.Laws.EntriesVeiled
import Derived.Deep.CutRange
import Derived.Deep.RegionHeld3
set_option linter.unusedVariables false
set_option linter.unusedSimpArgs false
namespace Go.Proofs.Ytgnpldlgdapehaa
open Go.RowKit
open Go.Lib hiding intOf
attribute [local go_sem ↓] Go.wp_at_zero Go.wp_at_succ

def OutL (w : World) (g base N : Nat) (LB : List UInt8) : Prop := ∃ A c, Blk w g 118 #[.slice A N c] ∧ w.ownsRow base 5 1 (.slice A N c) N (bcells LB)
def OutF (g base : Nat) (w : World) : Nat → Prop := fun i => i = g ∨ (base ≤ i ∧ ∃ cs z, w.heap[i]? = some (.cells cs 5 z))
def OutK (g base : Nat) (w w' : World) : Prop := Kept (OutF g base w) w w'
theorem OutK.trans {g base : Nat} {a b c : World} (h : OutK g base a b) (k : OutK g base b c) : OutK g base a c :=
 ⟨k.os.trans h.os, k.tape.trans h.tape, k.output.trans h.output, Nat.le_trans h.size k.size, fun i hi hn => by
  have h1 := h.block i hi hn
  refine (k.block i (Nat.lt_of_lt_of_le hi h.size) ?_).trans h1
  rintro (h2 | ⟨h2, cs, z, h3⟩)
  ·exact hn (.inl h2)
  ·exact hn (.inr ⟨h2, cs, z, by rw [← h1]; exact h3⟩)⟩
theorem OutK.refl (g base : Nat) (w : World) : OutK g base w w := Kept.refl _ _
theorem OutK.drew {g base : Nat} {a w : World} (h : OutK g base a w) : OutK g base a w.drew := Kept.drew h
theorem OutK.of_new {g base : Nat} {w w' : World} (h : Below w.heap.size w w') : OutK g base w w' := Kept.of_new h
theorem own_cells {w : World} {base : Nat} {e : TypeId} {size : Nat} {v : Value} {n : Nat} {xs : List Value} (ho : w.ownsRow base e size v n xs) {i : Nat} (h : v.ownBlock = some i) : ∃ cs z, w.heap[i]? = some (.cells cs e z) := by
 rcases ho.2 with ⟨rfl, _⟩ | ⟨g', cap, cur, rfl, _, hh, _⟩
 ·simp [Value.ownBlock] at h
 ·have : g' = i := by simpa [Value.ownBlock] using h
  subst this
  exact ⟨_, _, hh⟩
theorem OutK.grown {g base : Nat} {w w' : World} {size : Nat} {v : Value} {n : Nat} {xs : List Value} (ho : w.ownsRow base 5 size v n xs) (hg : w.grownBy w' v.ownBlock) : OutK g base w w' :=
 Kept.of_grown hg fun i e => .inr ⟨(ho.lt i e).1, own_cells ho e⟩
theorem OutK.set_ (g base j : Nat) (w : World) (u : Value) : OutK g base w (w.setCell ⟨g, j, none⟩ u) := Kept.setCell (Kept.refl _ _) (p := ⟨g, j, none⟩) (.inl (.inl rfl)) u
theorem OutK.blk {w w' : World} {g base h : Nat} {t : TypeId} {cs : Array Value} (hk : OutK g base w w') (hb : Blk w h t cs) (hg : h ≠ g) (ht : t ≠ 5) : Blk w' h t cs := by
 refine Kept.blk hk hb ?_
 rintro (h1 | ⟨_, cs', z, h2⟩)
 ·exact hg h1
 ·have h3 : w.heap[h]? = some (.cells cs t (0, 0)) := hb
  rw [h3] at h2
  injection h2 with h2
  injection h2 with _ h4 _
  exact ht h4
theorem OutK.below {w w' : World} {g base B : Nat} (hk : OutK g base w w') (hg : B ≤ g) (hb : B ≤ base) (hB : B ≤ w.heap.size) : Below B w w' :=
 Kept.below hk (by rintro k (h | ⟨h, _⟩) <;> omega) hB
set_option maxRecDepth 100000 in
set_option maxHeartbeats 3200000 in
theorem lput_is {w : World} {g base N : Nat} {LB : List UInt8} (h : OutL w g base N LB) (hg : g < base) (hb : base ≤ w.heap.size) (v k : Nat) (h1 : 1 ≤ k) (h2 : k ≤ 8) (hN : N ≤ 10000000) :
  Calls Try.prog 92 #[.int .u64 v, .int .i64 k, .pointer (some ⟨g, 0, none⟩)] w fun e w' => e = .returned (.tuple #[]) ∧ OutL w' g base (N + k) (LB ++ Go.leBytes k v) ∧ OutK g base w w' := by
 obtain ⟨i0, hi0, hz0, hz1, hz2⟩ := info_parts infoU8
 obtain ⟨A, c, hB, hO⟩ := h
 have B := Lib.hid hB.drew
 have O := Lib.hid (show w.drew.ownsRow base 5 1 (.slice A N c) N (bcells LB) from hO)
 have HK := Lib.hid (OutK.drew (OutK.refl g base w))
 clear hB hO
 go_enter Try.func92, Try.ntmps92
 go_wp2_with fail
 refine wp_region_held_drew (S := (fun w' => True)) (by kernel_rfl) trivial (fun hHeld => ?_)
 refine tkA (i := 1) ?_
 try simp only [tkP]
 refine tkA (i := 2) ?_
 try simp only [tkP]
 refine wpAnyH_ready (rs := [0,3]) (by kernel_rfl) (by simp) ?_
 refine AllReadyH.consL rfl (fun K hK => ?_) (AllReadyH.consL rfl (fun K hK => ?_) AllReadyH.nil)
 ·have k0 := B.out.cell 0
  simp at k0
  go_simp
  refine hK.out _ _ trivial (fun hHeld => ?_)
  clear hK K
  try simp only [tkP]
  clear k0
  refine wpAnyH_ready (rs := [3]) (by kernel_rfl) (by simp) ?_
  refine tkC (fun K hK => ?_)
  go_simp
  refine (put_reads none 0 0 v k [] _ (reads_nil _) (by omega) h1 h2).mono ?_
  rintro e w2 ⟨A2, c2, rfl, hr2, hb2⟩
  rw [List.nil_append, Nat.zero_add] at hr2
  try simp only [Nat.zero_add]
  replace B := Lib.hid (B.out.below hb2 B.out.lt)
  replace O := Lib.hid (own_below O.out hb2)
  replace HK := Lib.hid (HK.out.trans (OutK.of_new hb2))
  have HBS := Lib.hid (show base ≤ w2.heap.size from Nat.le_trans hb hb2.size)
  have R2 := Lib.hid hr2
  clear hb2 hr2
  refine hK.out _ _ trivial (fun hHeld => ?_)
  clear hK K
  try simp only [tkP]
  refine wpAnyH_ready (rs := [4]) (by kernel_rfl) (by simp) ?_
  refine tkC (fun K hK => ?_)
  refine wp_append_any _ (.tmp 5) (.tmp 8) _ rfl base 5 i0 _ 1 1 Try.underlying118 hi0 hz0 hz1 hz2 rfl (by omega) _ N _ rfl O.out w2.heap.size A2 k c2 _ rfl R2.out (bcells_one _) (by unfold maxLen; omega) (by omega) HBS.out ?_
  intro v3 w3 hown3 hg3 _
  rw [← bcells_append] at hown3
  obtain ⟨A3, c3, rfl, _, _, _⟩ := own_form hown3
  replace B := Lib.hid (B.out.grown hg3 (own_type O.out B.out (by decide)))
  replace HK := Lib.hid (HK.out.trans (OutK.grown O.out hg3))
  have O3 := Lib.hid hown3
  clear hg3 hown3 R2 O
  refine hK.out _ _ trivial (fun hHeld => ?_)
  clear hK K
  try simp only [tkP]
  refine wpAnyH_ready (rs := [5]) (by kernel_rfl) (by simp) ?_
  refine tkC (fun K hK => ?_)
  have k0 := B.out.cell 0
  have f0 := B.out.frozen 0
  simp at k0
  go_simp
  refine hK.out _ _ trivial (fun hHeld => ?_)
  clear hK K
  try simp only [tkP]
  refine wpAnyH_done (by kernel_rfl) ?_ _
  go_wp2_with fail
  go_end0
  exact ⟨rfl, ⟨A3, c3, by simpa using B.out.set_ 0 _, (Kept.setCell (F := fun i => i = g) (Kept.refl _ _) (p := ⟨g, 0, none⟩) (.inl rfl) _).own O3.out (fun i e h => by have := (O3.out.lt i e).1; omega)⟩, HK.out.trans (OutK.set_ g base 0 _ _)⟩
 ·go_simp
  refine (put_reads none 0 0 v k [] _ (reads_nil _) (by omega) h1 h2).mono ?_
  rintro e w2 ⟨A2, c2, rfl, hr2, hb2⟩
  rw [List.nil_append, Nat.zero_add] at hr2
  try simp only [Nat.zero_add]
  replace B := Lib.hid (B.out.below hb2 B.out.lt)
  replace O := Lib.hid (own_below O.out hb2)
  replace HK := Lib.hid (HK.out.trans (OutK.of_new hb2))
  have HBS := Lib.hid (show base ≤ w2.heap.size from Nat.le_trans hb hb2.size)
  have R2 := Lib.hid hr2
  clear hb2 hr2
  refine hK.out _ _ trivial (fun hHeld => ?_)
  clear hK K
  try simp only [tkP]
  refine wpAnyH_ready (rs := [0]) (by kernel_rfl) (by simp) ?_
  refine tkC (fun K hK => ?_)
  have k0 := B.out.cell 0
  simp at k0
  go_simp
  refine hK.out _ _ trivial (fun hHeld => ?_)
  clear hK K
  try simp only [tkP]
  clear k0
  refine wpAnyH_ready (rs := [4]) (by kernel_rfl) (by simp) ?_
  refine tkC (fun K hK => ?_)
  refine wp_append_any _ (.tmp 5) (.tmp 8) _ rfl base 5 i0 _ 1 1 Try.underlying118 hi0 hz0 hz1 hz2 rfl (by omega) _ N _ rfl O.out w2.heap.size A2 k c2 _ rfl R2.out (bcells_one _) (by unfold maxLen; omega) (by omega) HBS.out ?_
  intro v3 w3 hown3 hg3 _
  rw [← bcells_append] at hown3
  obtain ⟨A3, c3, rfl, _, _, _⟩ := own_form hown3
  replace B := Lib.hid (B.out.grown hg3 (own_type O.out B.out (by decide)))
  replace HK := Lib.hid (HK.out.trans (OutK.grown O.out hg3))
  have O3 := Lib.hid hown3
  clear hg3 hown3 R2 O
  refine hK.out _ _ trivial (fun hHeld => ?_)
  clear hK K
  try simp only [tkP]
  refine wpAnyH_ready (rs := [5]) (by kernel_rfl) (by simp) ?_
  refine tkC (fun K hK => ?_)
  have k0 := B.out.cell 0
  have f0 := B.out.frozen 0
  simp at k0
  go_simp
  refine hK.out _ _ trivial (fun hHeld => ?_)
  clear hK K
  try simp only [tkP]
  refine wpAnyH_done (by kernel_rfl) ?_ _
  go_wp2_with fail
  go_end0
  exact ⟨rfl, ⟨A3, c3, by simpa using B.out.set_ 0 _, (Kept.setCell (F := fun i => i = g) (Kept.refl _ _) (p := ⟨g, 0, none⟩) (.inl rfl) _).own O3.out (fun i e h => by have := (O3.out.lt i e).1; omega)⟩, HK.out.trans (OutK.set_ g base 0 _ _)⟩
set_option maxRecDepth 100000 in
set_option maxHeartbeats 3200000 in
theorem ltext_is {w : World} {g h base N : Nat} {LB : List UInt8} (hO : OutL w g base N LB) (hC : Blk w h 134 #[.func (.func 92) #[] #[.pointer (some ⟨g, 0, none⟩)]]) (hgh : h ≠ g) (hg : g < base) (hb : base ≤ w.heap.size) (s : ByteArray) (hs : s.size ≤ 1000000) (hN : N ≤ 3000000) :
  Calls Try.prog 94 #[.string s, .pointer (some ⟨h, 0, none⟩), .pointer (some ⟨g, 0, none⟩)] w fun e w' => e = .returned (.tuple #[]) ∧ OutL w' g base (N + 1 + s.size) (LB ++ Go.leBytes 1 s.size ++ s.data.toList) ∧ OutK g base w w' := by
 obtain ⟨i0, hi0, hz0, hz1, hz2⟩ := info_parts infoU8
 have HP := fun w' (h' : OutL w' g base N LB) (hb' : base ≤ w'.heap.size) => lput_is h' hg hb' s.size 1 (by omega) (by omega) (by omega)
 have eg : ∀ args w, (callFunc 92 args).run Try.prog w = .ok (.enter 92 args) w := fun _ _ => by first | rfl | kernel_rfl
 have hw : IntKind.u64.wrap (s.size : Int) = (s.size : Int) := by rw [IntKind.wrap_u64]; omega
 have HO := Lib.hid hO
 have C := Lib.hid hC
 have HBS := Lib.hid hb
 clear hO hC hb
 have c0 := C.out.cell 0
 simp at c0
 go_enter Try.func94, Try.ntmps94
 go_wp2_with fail
 refine (HP _ HO.out HBS.out).mono ?_
 rintro e w2 ⟨rfl, hO2, hk⟩
 obtain ⟨A, c, hB, hR⟩ := hO2
 have B := Lib.hid hB
 have O := Lib.hid hR
 have HK := Lib.hid hk
 replace HBS := Lib.hid (Nat.le_trans HBS.out hk.size)
 clear hB hR hk HO HP hw
 have k0 := B.out.cell 0
 have f0 := B.out.frozen 0
 simp at k0
 go_wp2_with (at_builtin; refine Lib.wpList_append_own_string _ rfl (.tmp 9) (.tmp 10) _ _ rfl base 5 i0 Try.underlying118 Try.underlying9 hi0 hz0 hz1 hz2 _ (N + 1) _ rfl O.out s rfl (by unfold maxLen; omega) (by omega) HBS.out ?_; intro v4 w4 hown4 hg4 _; replace hown4 : w4.ownsRow base 5 1 v4 (N + 1 + s.size) (bcells (LB ++ Go.leBytes 1 s.size ++ s.data.toList)) := (by rw [bcells_append (LB ++ Go.leBytes 1 s.size)]; exact hown4); obtain ⟨A4, c4, rfl, _, _, _⟩ := own_form hown4; replace B := Lib.hid (B.out.grown hg4 (own_type O.out B.out (by decide))); replace HK := Lib.hid (HK.out.trans (OutK.grown O.out hg4)); have O4 := Lib.hid hown4; clear hown4 hg4 k0 f0; have k0 := B.out.cell 0; have f0 := B.out.frozen 0; simp at k0)
 go_end0
 exact ⟨rfl, ⟨A4, c4, by simpa using B.out.set_ 0 _, (Kept.setCell (F := fun i => i = g) (Kept.refl _ _) (p := ⟨g, 0, none⟩) (.inl rfl) _).own O4.out (fun i e h => by have := (O4.out.lt i e).1; omega)⟩, HK.out.trans (OutK.set_ g base 0 _ _)⟩
set_option maxRecDepth 100000 in
set_option maxHeartbeats 12800000 in
theorem llisted_any (A : Option Addr) (m c : Nat) (l : List It) (w : World) (hr : Reads w w.heap.size 5 A m (itc l)) (hall : allOkI l = true) (hs : sizeI l ≤ 1000000) :
  Calls Try.prog 77 #[.slice A m c] w fun e w' => ∃ A' c', e = .returned (.slice A' (sizeI l) c') ∧ Reads w' w'.heap.size 1 A' (sizeI l) (bcells (bytesI l)) ∧ Below w.heap.size w w' := by
 have hmf : ∀ (fn : Fn) (first cap : Array Value) (w : World), (Instr.makeFunc fn first cap).run Try.prog w = .ok (.func fn first cap) w := fun _ _ _ _ => rfl
 have eg1 : ∀ args w, (callFunc 92 args).run Try.prog w = .ok (.enter 92 args) w := fun _ _ => by first | rfl | kernel_rfl
 have eg2 : ∀ args w, (callFunc 94 args).run Try.prog w = .ok (.enter 94 args) w := fun _ _ => by first | rfl | kernel_rfl
 have hm : m ≤ 1000000 := by
  have h1 := three_le l
  rw [it_len hr] at h1
  omega
 have HALL := Lib.hid hall
 have HL := Lib.hid (it_len hr)
 have HR := Lib.hid hr
 have HSZ := Lib.hid hs
 obtain ⟨H, hH⟩ : ∃ H, H = w.heap.size := ⟨_, rfl⟩
 obtain ⟨w0, hw0⟩ : ∃ x, x = (w.alloc (.cells #[.slice none 0 0] 118)).alloc (.cells #[.func (.func 92) #[] #[.pointer (some ⟨w.heap.size, 0, none⟩)]] 134) := ⟨_, rfl⟩
 have B0 := Blk.new w 118 #[.slice none 0 0]
 have C0 := Lib.hid (show Blk w0 (H + 1) 134 #[.func (.func 92) #[] #[.pointer (some ⟨H, 0, none⟩)]] by
  rw [hw0, hH]
  have := Blk.new (w.alloc (.cells #[.slice none 0 0] 118)) 134 #[.func (.func 92) #[] #[.pointer (some ⟨w.heap.size, 0, none⟩)]]
  simpa using this)
 have O0 := Lib.hid (show OutL w0 H (H + 2) 0 [] by rw [hw0, hH]; exact ⟨none, 0, B0.alloc _, World.ownsRow_nil _ _ _ _⟩)
 have HB0 := Lib.hid (show Below H w w0 by rw [hw0, hH]; exact ((Below.refl _ _).alloc (Nat.le_refl _) _).alloc (by simp) _)
 have HS0 : H + 2 ≤ w0.heap.size := by rw [hw0, hH]; simp
 have HS0' := Lib.hid HS0
 clear hr hall hs B0 HS0
 go_enter Try.func77, Try.ntmps77
 go_wp2_with fail
 rw [← hw0]
 have HHw := Lib.hid hH
 rw [← hH] at HR ⊢
 clear hw0 hH
 go_loopw [7, 12] (fun _ i wr => ∃ k : Nat, k ≤ m ∧ i = .int .i64 k ∧ Hid (OutL wr H (H + 2) (sizeI (l.take k)) (bytesI (l.take k))) ∧ Hid (Blk wr (H + 1) 134 #[.func (.func 92) #[] #[.pointer (some ⟨H, 0, none⟩)]]) ∧ Hid (Below H w wr)) (fun _ i _ => m - (intOf i).toNat)
 case atStart => exact ⟨0, Nat.zero_le _, rfl, by simpa [sizeI, bytesI] using O0, C0, HB0⟩
 case round =>
  clear O0 C0 HB0 HS0'
  obtain ⟨k, hk, rfl, O, C, HB⟩ := hrel
  by_cases hlt : k < m
  ·obtain ⟨ad, x, rfl, _, hp, hx, hc⟩ := it_at HR.out hlt
   obtain ⟨c0', c1', c2', c3', c4'⟩ := hc.below HB.out hp
   have hk0 : (0 : Int) ≤ k := by omega
   have hk1 : (k : Int) < m := by omega
   have HX := Lib.hid hx
   have hok := allOkI_ok HALL.out hx
   have hsz := sizeI_take_succ hx
   have hle := sizeI_take_le l (k + 1)
   have hs2 := HSZ.out
   obtain ⟨N, hN⟩ : ∃ N, N = sizeI (l.take k) := ⟨_, rfl⟩
   obtain ⟨LB, hLB⟩ : ∃ LB, LB = bytesI (l.take k) := ⟨_, rfl⟩
   rw [← hN, ← hLB] at O
   have HN := Lib.hid hN
   have HLB := Lib.hid hLB
   rw [← hN] at hsz
   have hNs : N ≤ 1000000 := by omega
   have hlt2 : H + 1 < wr.heap.size := C.out.lt
   have HS := Lib.hid (show H + 2 ≤ (wr.alloc (.cells x.cells.toArray 46)).heap.size by simp; omega)
   obtain ⟨w1, hw1⟩ : ∃ x1, x1 = wr.alloc (.cells x.cells.toArray 46) := ⟨_, rfl⟩
   have M := Lib.hid (show Blk w1 wr.heap.size 46 x.cells.toArray by rw [hw1]; exact Blk.new _ _ _)
   rw [← hw1] at HS
   replace HB := Lib.hid (show Below H w w1 by rw [hw1]; exact HB.out.alloc (by omega) _)
   replace C := Lib.hid (show Blk w1 (H + 1) 134 #[.func (.func 92) #[] #[.pointer (some ⟨H, 0, none⟩)]] by rw [hw1]; exact C.out.alloc _)
   replace O := Lib.hid (show OutL w1 H (H + 2) N LB by
    obtain ⟨A', c', h1, h2⟩ := O.out
    rw [hw1]
    exact ⟨A', c', h1.alloc _, h2.alloc _⟩)
   obtain ⟨ky, vl, ov, ln, hd⟩ := x
   dsimp only [It.cells] at hw1 M
   clear hx hN hLB hp hc
   go_upto_region 7 with fail
   rw [← hw1]
   clear hw1 c0' c1' c2' c3' c4'
   generalize wr.heap.size = gM at *
   have c0 := C.out.cell 0
   have m0 := M.out.cell 0
   have m1 := M.out.cell 1
   have m2 := M.out.cell 2
   have m3 := M.out.cell 3
   have m4 := M.out.cell 4
   simp at c0 m0 m1 m2 m3 m4
   have hky := okIt_key hok
   dsimp only at hky
   cases ov
   ·rw [okIt_in rfl] at hok
    simp only [Bool.and_eq_true, decide_eq_true_eq] at hok
    obtain ⟨_, hv, _, _⟩ := hok
    have HSE := Lib.hid (show N + 1 + 1 + ky.size + 1 + vl.size = sizeI (l.take (k + 1)) by rw [hsz]; simp [oneI]; omega)
    clear hsz hle hs2
    go_wp2_with fail
    refine (lput_is O.out (base := H + 2) (by omega) HS.out 0 1 (by omega) (by omega) (by omega)).mono ?_
    rintro e w2 ⟨rfl, hO, hk⟩
    replace O := Lib.hid hO
    replace C := Lib.hid (hk.blk C.out (by omega) (by decide))
    replace M := Lib.hid (hk.blk M.out (by omega) (by decide))
    replace HB := Lib.hid (HB.out.trans (hk.below (Nat.le_refl _) (by omega) (by have := HS.out; omega)))
    replace HS := Lib.hid (Nat.le_trans HS.out hk.size)
    clear hO hk c0 m0 m1 m2 m3 m4
    have c0 := C.out.cell 0
    have m0 := M.out.cell 0
    have m1 := M.out.cell 1
    have m2 := M.out.cell 2
    have m3 := M.out.cell 3
    have m4 := M.out.cell 4
    simp at c0 m0 m1 m2 m3 m4
    go_wp2_with fail
    refine (ltext_is O.out C.out (base := H + 2) (by omega) (by omega) HS.out ky (by omega) (by omega)).mono ?_
    rintro e w3 ⟨rfl, hO, hk⟩
    replace O := Lib.hid hO
    replace C := Lib.hid (hk.blk C.out (by omega) (by decide))
    replace M := Lib.hid (hk.blk M.out (by omega) (by decide))
    replace HB := Lib.hid (HB.out.trans (hk.below (Nat.le_refl _) (by omega) (by have := HS.out; omega)))
    replace HS := Lib.hid (Nat.le_trans HS.out hk.size)
    clear hO hk c0 m0 m1 m2 m3 m4
    have c0 := C.out.cell 0
    have m0 := M.out.cell 0
    have m1 := M.out.cell 1
    have m2 := M.out.cell 2
    have m3 := M.out.cell 3
    have m4 := M.out.cell 4
    simp at c0 m0 m1 m2 m3 m4
    go_wp2_with fail
    refine (ltext_is O.out C.out (base := H + 2) (by omega) (by omega) HS.out vl (by omega) (by omega)).mono ?_
    rintro e w4 ⟨rfl, hO, hk⟩
    replace O := Lib.hid hO
    replace C := Lib.hid (hk.blk C.out (by omega) (by decide))
    replace M := Lib.hid (hk.blk M.out (by omega) (by decide))
    replace HB := Lib.hid (HB.out.trans (hk.below (Nat.le_refl _) (by omega) (by have := HS.out; omega)))
    replace HS := Lib.hid (Nat.le_trans HS.out hk.size)
    clear hO hk c0 m0 m1 m2 m3 m4
    have c0 := C.out.cell 0
    have m0 := M.out.cell 0
    have m1 := M.out.cell 1
    have m2 := M.out.cell 2
    have m3 := M.out.cell 3
    have m4 := M.out.cell 4
    simp at c0 m0 m1 m2 m3 m4
    go_wp2_with fail
    have hby : LB ++ Go.leBytes 1 0 ++ Go.leBytes 1 ky.size ++ ky.data.toList ++ Go.leBytes 1 vl.size ++ vl.data.toList = bytesI (l.take (k + 1)) := by
     rw [bytesI_take_succ HX.out, HLB.out]
     simp [It.bytes, It.tail]
    have hse := HSE.out
    have HO := Lib.hid (show OutL w4 H (H + 2) (sizeI (l.take (k + 1))) (bytesI (l.take (k + 1))) by rw [← hby, ← hse]; exact O.out)
    clear hby hse
    go_roundw
    case rel =>
     first
      | exact ⟨k + 1, by omega, by go_num, HO, C, HB⟩
      | ((repeat apply Exists.intro); exact ⟨⟨k + 1, by omega, by go_num, HO, C, HB⟩, rfl⟩)
    case measure => simp [intOf]; omega
   ·rw [okIt_ov rfl] at hok
    simp only [Bool.and_eq_true, decide_eq_true_eq, numB] at hok
    obtain ⟨_, hv, hl1, hl2, hh1, hh2⟩ := hok
    obtain ⟨z, rfl⟩ : ∃ z : Nat, ln = z := ⟨ln.toNat, by omega⟩
    have hwz : IntKind.u64.wrap (z : Int) = (z : Int) := by rw [IntKind.wrap_u64]; omega
    have hwh : IntKind.u64.wrap (hd : Int) = (hd : Int) := by rw [IntKind.wrap_u64]; omega
    have HSE := Lib.hid (show N + 1 + 1 + ky.size + 4 + 4 = sizeI (l.take (k + 1)) by rw [hsz]; simp [oneI]; omega)
    clear hsz hle hs2
    go_wp2_with fail
    refine (lput_is O.out (base := H + 2) (by omega) HS.out 1 1 (by omega) (by omega) (by omega)).mono ?_
    rintro e w2 ⟨rfl, hO, hk⟩
    replace O := Lib.hid hO
    replace C := Lib.hid (hk.blk C.out (by omega) (by decide))
    replace M := Lib.hid (hk.blk M.out (by omega) (by decide))
    replace HB := Lib.hid (HB.out.trans (hk.below (Nat.le_refl _) (by omega) (by have := HS.out; omega)))
    replace HS := Lib.hid (Nat.le_trans HS.out hk.size)
    clear hO hk c0 m0 m1 m2 m3 m4
    have c0 := C.out.cell 0
    have m0 := M.out.cell 0
    have m1 := M.out.cell 1
    have m2 := M.out.cell 2
    have m3 := M.out.cell 3
    have m4 := M.out.cell 4
    simp at c0 m0 m1 m2 m3 m4
    go_wp2_with fail
    refine (ltext_is O.out C.out (base := H + 2) (by omega) (by omega) HS.out ky (by omega) (by omega)).mono ?_
    rintro e w3 ⟨rfl, hO, hk⟩
    replace O := Lib.hid hO
    replace C := Lib.hid (hk.blk C.out (by omega) (by decide))
    replace M := Lib.hid (hk.blk M.out (by omega) (by decide))
    replace HB := Lib.hid (HB.out.trans (hk.below (Nat.le_refl _) (by omega) (by have := HS.out; omega)))
    replace HS := Lib.hid (Nat.le_trans HS.out hk.size)
    clear hO hk c0 m0 m1 m2 m3 m4
    have c0 := C.out.cell 0
    have m0 := M.out.cell 0
    have m1 := M.out.cell 1
    have m2 := M.out.cell 2
    have m3 := M.out.cell 3
    have m4 := M.out.cell 4
    simp at c0 m0 m1 m2 m3 m4
    go_wp2_with fail
    refine (lput_is O.out (base := H + 2) (by omega) HS.out z 4 (by omega) (by omega) (by omega)).mono ?_
    rintro e w4 ⟨rfl, hO, hk⟩
    replace O := Lib.hid hO
    replace C := Lib.hid (hk.blk C.out (by omega) (by decide))
    replace M := Lib.hid (hk.blk M.out (by omega) (by decide))
    replace HB := Lib.hid (HB.out.trans (hk.below (Nat.le_refl _) (by omega) (by have := HS.out; omega)))
    replace HS := Lib.hid (Nat.le_trans HS.out hk.size)
    clear hO hk c0 m0 m1 m2 m3 m4
    have c0 := C.out.cell 0
    have m0 := M.out.cell 0
    have m1 := M.out.cell 1
    have m2 := M.out.cell 2
    have m3 := M.out.cell 3
    have m4 := M.out.cell 4
    simp at c0 m0 m1 m2 m3 m4
    go_wp2_with fail
    refine (lput_is O.out (base := H + 2) (by omega) HS.out hd 4 (by omega) (by omega) (by omega)).mono ?_
    rintro e w5 ⟨rfl, hO, hk⟩
    replace O := Lib.hid hO
    replace C := Lib.hid (hk.blk C.out (by omega) (by decide))
    replace M := Lib.hid (hk.blk M.out (by omega) (by decide))
    replace HB := Lib.hid (HB.out.trans (hk.below (Nat.le_refl _) (by omega) (by have := HS.out; omega)))
    replace HS := Lib.hid (Nat.le_trans HS.out hk.size)
    clear hO hk c0 m0 m1 m2 m3 m4
    have c0 := C.out.cell 0
    have m0 := M.out.cell 0
    have m1 := M.out.cell 1
    have m2 := M.out.cell 2
    have m3 := M.out.cell 3
    have m4 := M.out.cell 4
    simp at c0 m0 m1 m2 m3 m4
    go_wp2_with fail
    have hby : LB ++ Go.leBytes 1 1 ++ Go.leBytes 1 ky.size ++ ky.data.toList ++ Go.leBytes 4 z ++ Go.leBytes 4 hd = bytesI (l.take (k + 1)) := by
     rw [bytesI_take_succ HX.out, HLB.out]
     simp [It.bytes, It.tail]
    have hse := HSE.out
    have HO := Lib.hid (show OutL w5 H (H + 2) (sizeI (l.take (k + 1))) (bytesI (l.take (k + 1))) by rw [← hby, ← hse]; exact O.out)
    clear hby hse
    go_roundw
    case rel =>
     first
      | exact ⟨k + 1, by omega, by go_num, HO, C, HB⟩
      | ((repeat apply Exists.intro); exact ⟨⟨k + 1, by omega, by go_num, HO, C, HB⟩, rfl⟩)
    case measure => simp [intOf]; omega
  ·obtain rfl : k = m := by omega
   have ht : l.take k = l := List.take_of_length_le (by rw [HL.out]; exact Nat.le_refl _)
   rw [ht] at O
   obtain ⟨A', c', hB', hO'⟩ := O.out
   have k0 := hB'.cell 0
   simp at k0
   have HR' := Lib.hid (Reads.of_own hO')
   clear hlt ht hB' hO'
   go_wp2_with fail
   go_ret
   exact ⟨A', c', rfl, HR'.out, by rw [← HHw.out]; exact HB.out⟩
end Go.Proofs.Ytgnpldlgdapehaa

