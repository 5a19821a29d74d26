/-
  Texts that the main proof rests on, put together: La, Kept, Ref8Valid. No statement is proved here.
-/
import Derived.Test.YtmmjckokjmpfpaaGreatJ12
import Derived.Test.YtmmjckokjmpfpaaGreatJ14
import Derived.Test.YtmmjckokjmpfpaaGreatJ1
import Derived.Test.YtmmjckokjmpfpaaGreatJ3
import Derived.Deep.CutRange
import Derived.Deep.RegionHeld3
set_option linter.unusedVariables false
set_option linter.unusedSimpArgs false
namespace Go.Proofs.YtmmjckokjmpfpaaGreat
open Go.RowKit
open Go.Lib hiding intOf

def growT {α : Type} (sz : List α → Nat) (room : Nat) (l : List α) : Nat → Nat → Nat
 | 0, t => t
 | d + 1, t => if t < l.length ∧ sz (l.take (t + 1)) ≤ room then growT sz room l d (t + 1) else t
def cutG {α : Type} (sz : List α → Nat) (room : Nat) : Nat → List α → List (List α)
 | 0, _ => []
 | d + 1, l => if l = [] then [] else l.take (growT sz room l l.length 1) :: cutG sz room d (l.drop (growT sz room l l.length 1))
section
variable {α : Type} {sz : List α → Nat} {room : Nat}
theorem growT_ge (l : List α) : ∀ d t, t ≤ growT sz room l d t
 | 0, t => Nat.le_refl _
 | d + 1, t => by
  simp only [growT]
  split
  ·have := growT_ge l d (t + 1); omega
  ·exact Nat.le_refl _
theorem growT_step (l : List α) {d t : Nat} (h : t < l.length ∧ sz (l.take (t + 1)) ≤ room) : growT sz room l (d + 1) t = growT sz room l d (t + 1) := by simp only [growT, if_pos h]
theorem growT_end (l : List α) {d t : Nat} (h : ¬ (t < l.length ∧ sz (l.take (t + 1)) ≤ room)) : growT sz room l d t = t := by
 cases d with
 | zero => rfl
 | succ d => simp only [growT, if_neg h]
theorem growT_fits (l : List α) : ∀ d t, sz (l.take t) ≤ room → sz (l.take (growT sz room l d t)) ≤ room
 | 0, t, h => h
 | d + 1, t, h => by
  simp only [growT]
  split
  ·rename_i h2
   exact growT_fits l d (t + 1) h2.2
  ·exact h
theorem cutG_nil (d : Nat) : cutG sz room d ([] : List α) = [] := by cases d <;> simp [cutG]
theorem cutG_cons {d : Nat} {l : List α} (h : l ≠ []) : cutG sz room (d + 1) l = l.take (growT sz room l l.length 1) :: cutG sz room d (l.drop (growT sz room l l.length 1)) := by simp only [cutG, if_neg h]
theorem cutG_flat : ∀ (d : Nat) (l : List α), l.length ≤ d → (cutG sz room d l).flatten = l
 | 0, l, h => by
  have : l = [] := List.eq_nil_of_length_eq_zero (by omega)
  subst this
  simp [cutG]
 | d + 1, l, h => by
  by_cases hl : l = []
  ·subst hl; simp [cutG]
  ·rw [cutG_cons hl, List.flatten_cons, cutG_flat d _ (by
    rw [List.length_drop]
    have := growT_ge (sz := sz) (room := room) l l.length 1
    have : 0 < l.length := List.length_pos_iff.2 hl
    omega)]
   exact List.take_append_drop _ _
theorem cutG_ne : ∀ (d : Nat) (l : List α), ∀ p ∈ cutG sz room d l, p ≠ []
 | 0, l, p, h => by simp [cutG] at h
 | d + 1, l, p, h => by
  by_cases hl : l = []
  ·subst hl; simp [cutG] at h
  ·rw [cutG_cons hl] at h
   rcases List.mem_cons.1 h with rfl | h
   ·intro he
    have h1 : (l.take (growT sz room l l.length 1)).length = 0 := by rw [he]; rfl
    rw [List.length_take] at h1
    have := growT_ge (sz := sz) (room := room) l l.length 1
    have : 0 < l.length := List.length_pos_iff.2 hl
    omega
   ·exact cutG_ne d _ p h
theorem cutG_len : ∀ (d : Nat) (l : List α), (cutG sz room d l).length ≤ l.length
 | 0, l => by simp [cutG]
 | d + 1, l => by
  by_cases hl : l = []
  ·subst hl; simp [cutG]
  ·rw [cutG_cons hl, List.length_cons]
   have h1 := cutG_len d (l.drop (growT sz room l l.length 1))
   rw [List.length_drop] at h1
   have := growT_ge (sz := sz) (room := room) l l.length 1
   have : 0 < l.length := List.length_pos_iff.2 hl
   omega
theorem cutG_fits : ∀ (d : Nat) (l : List α), (∀ x ∈ l, sz [x] ≤ room) → ∀ p ∈ cutG sz room d l, sz p ≤ room
 | 0, l, _, p, h => by simp [cutG] at h
 | d + 1, l, h1, p, h => by
  by_cases hl : l = []
  ·subst hl; simp [cutG] at h
  ·rw [cutG_cons hl] at h
   rcases List.mem_cons.1 h with rfl | h
   ·refine growT_fits l _ _ ?_
    cases l with
    | nil => exact absurd rfl hl
    | cons x t => simpa using h1 x (by simp)
   ·exact cutG_fits d _ (fun x hx => h1 x (List.mem_of_mem_drop hx)) p h
end
def itemY (z : Nat) (L : List Pg) (p : Pr) : List Pg × It :=
 if inB z p.vl.size then (L, ⟨p.ky, p.vl, false, 0, 0⟩) else (L ++ (pagesL z 3 (2 + L.length) p.vl).getD [], ⟨p.ky, ⟨#[]⟩, true, p.vl.size, 2 + L.length⟩)
def itemsY (z : Nat) : List Pg → List Pr → List Pg × List It
 | L, [] => (L, [])
 | L, p :: t => ((itemsY z (itemY z L p).1 t).1, (itemY z L p).2 :: (itemsY z (itemY z L p).1 t).2)
theorem itemsY_snoc (z : Nat) : ∀ (l : List Pr) (L : List Pg) (p : Pr), itemsY z L (l ++ [p]) = ((itemY z (itemsY z L l).1 p).1, (itemsY z L l).2 ++ [(itemY z (itemsY z L l).1 p).2])
 | [], L, p => rfl
 | q :: l, L, p => by
  simp only [List.cons_append, itemsY]
  rw [itemsY_snoc z l]
theorem itemsY_len (z : Nat) : ∀ (l : List Pr) (L : List Pg), (itemsY z L l).2.length = l.length
 | [], L => rfl
 | q :: l, L => by simp [itemsY, itemsY_len z l]
def leafPg (z n : Nat) (l : List It) : Pg := ⟨4, l.length, n, 0, 3, itemBody z l⟩
def brPg (z n : Nat) (l : List Fk) : Pg := ⟨3, l.length, n, 0, 3, forkBody z l⟩
def leafPgs (z : Nat) : Nat → List (List It) → List Pg
 | _, [] => []
 | n, p :: t => leafPg z n p :: leafPgs z (n + 1) t
def brPgs (z : Nat) : Nat → List (List Fk) → List Pg
 | _, [] => []
 | n, p :: t => brPg z n p :: brPgs z (n + 1) t
def keyI (l : List It) : ByteArray := (l.head?.map (·.ky)).getD ⟨#[]⟩
def keyK (l : List Fk) : ByteArray := (l.head?.map (·.nm)).getD ⟨#[]⟩
def leafFks : Nat → List (List It) → List Fk
 | _, [] => []
 | n, p :: t => ⟨keyI p, n⟩ :: leafFks (n + 1) t
def brFks : Nat → List (List Fk) → List Fk
 | _, [] => []
 | n, p :: t => ⟨keyK p, n⟩ :: brFks (n + 1) t
def leafMay (z : Nat) : Nat → List (List It) → Bool
 | _, [] => true
 | n, p :: t => mayP8 z n 3 p && leafMay z (n + 1) t
theorem leafPgs_append (z : Nat) : ∀ (a b : List (List It)) (n : Nat), leafPgs z n (a ++ b) = leafPgs z n a ++ leafPgs z (n + a.length) b
 | [], b, n => rfl
 | p :: a, b, n => by simp [leafPgs, leafPgs_append z a b (n + 1), Nat.add_comm, Nat.add_left_comm]
theorem leafFks_append : ∀ (a b : List (List It)) (n : Nat), leafFks n (a ++ b) = leafFks n a ++ leafFks (n + a.length) b
 | [], b, n => rfl
 | p :: a, b, n => by simp [leafFks, leafFks_append a b (n + 1), Nat.add_comm, Nat.add_left_comm]
theorem brPgs_append (z : Nat) : ∀ (a b : List (List Fk)) (n : Nat), brPgs z n (a ++ b) = brPgs z n a ++ brPgs z (n + a.length) b
 | [], b, n => rfl
 | p :: a, b, n => by simp [brPgs, brPgs_append z a b (n + 1), Nat.add_comm, Nat.add_left_comm]
theorem brFks_append : ∀ (a b : List (List Fk)) (n : Nat), brFks n (a ++ b) = brFks n a ++ brFks (n + a.length) b
 | [], b, n => rfl
 | p :: a, b, n => by simp [brFks, brFks_append a b (n + 1), Nat.add_comm, Nat.add_left_comm]
theorem leafPgs_len (z : Nat) : ∀ (a : List (List It)) (n : Nat), (leafPgs z n a).length = a.length
 | [], _ => rfl
 | p :: a, n => by simp [leafPgs, leafPgs_len z a]
theorem leafFks_len : ∀ (a : List (List It)) (n : Nat), (leafFks n a).length = a.length
 | [], _ => rfl
 | p :: a, n => by simp [leafFks, leafFks_len a]
theorem brPgs_len (z : Nat) : ∀ (a : List (List Fk)) (n : Nat), (brPgs z n a).length = a.length
 | [], _ => rfl
 | p :: a, n => by simp [brPgs, brPgs_len z a]
theorem brFks_len : ∀ (a : List (List Fk)) (n : Nat), (brFks n a).length = a.length
 | [], _ => rfl
 | p :: a, n => by simp [brFks, brFks_len a]
theorem leafMay_append (z : Nat) : ∀ (a b : List (List It)) (n : Nat), leafMay z n (a ++ b) = (leafMay z n a && leafMay z (n + a.length) b)
 | [], b, n => by simp [leafMay]
 | p :: a, b, n => by simp [leafMay, leafMay_append z a b (n + 1), Nat.add_comm, Nat.add_left_comm, Bool.and_assoc]
def levelsY (z : Nat) : Nat → List Pg → List Fk → List Pg × List Fk
 | 0, L, F => (L, F)
 | d + 1, L, F => if F.length ≤ 1 then (L, F) else levelsY z d (L ++ brPgs z (2 + L.length) (cutG sizeF (z - 24) F.length F)) (brFks (2 + L.length) (cutG sizeF (z - 24) F.length F))
end Go.Proofs.YtmmjckokjmpfpaaGreat

namespace Go.Proofs.YtmmjckokjmpfpaaGreat
open Go.RowKit Go.Lib

structure Kept (F : Nat → Prop) (w w' : World) : Prop where
 os : w'.os = w.os
 tape : w'.tape = w.tape
 output : w'.output = w.output
 size : w.heap.size ≤ w'.heap.size
 block : ∀ k, k < w.heap.size → ¬ F k → w'.heap[k]? = w.heap[k]?

section
variable {F G : Nat → Prop} {a w w' : World} {B g : Nat} {t : TypeId} {cs : Array Value}
theorem Kept.refl (F : Nat → Prop) (w : World) : Kept F w w := ⟨rfl, rfl, rfl, Nat.le_refl _, fun _ _ _ => rfl⟩
theorem Kept.trans (h : Kept F a w) (k : Kept F w w') : Kept F a w' :=
 ⟨k.os.trans h.os, k.tape.trans h.tape, k.output.trans h.output, Nat.le_trans h.size k.size, fun i hi hn => (k.block i (Nat.lt_of_lt_of_le hi h.size) hn).trans (h.block i hi hn)⟩
theorem Kept.then (h : Kept F a w) (k : Kept G w w') (hG : ∀ i, G i → F i ∨ a.heap.size ≤ i) : Kept F a w' :=
 ⟨k.os.trans h.os, k.tape.trans h.tape, k.output.trans h.output, Nat.le_trans h.size k.size, fun i hi hn =>
  (k.block i (Nat.lt_of_lt_of_le hi h.size) (fun hg => by rcases hG i hg with h1 | h1; exact hn h1; omega)).trans (h.block i hi hn)⟩
theorem Kept.mono (h : Kept F w w') (hG : ∀ i, F i → G i) : Kept G w w' := ⟨h.os, h.tape, h.output, h.size, fun i hi hn => h.block i hi fun hf => hn (hG i hf)⟩
theorem Kept.of_below (h : Below B w w') (hF : ∀ k, B ≤ k → k < w.heap.size → F k) : Kept F w w' :=
 ⟨h.os, h.tape, h.output, h.size, fun i hi hn => h.block i (by rcases Nat.lt_or_ge i B with h1 | h1; exact h1; exact absurd (hF i h1 hi) hn)⟩
theorem Kept.of_new (h : Below w.heap.size w w') : Kept F w w' := Kept.of_below h fun k h1 h2 => by omega
theorem Kept.of_grown {row : Option Nat} (h : w.grownBy w' row) (hF : ∀ k, row = some k → F k) : Kept F w w' :=
 ⟨h.os, h.tape, h.output, h.size, fun i hi hn => h.block i hi fun e => hn (hF i e.symm)⟩
theorem Kept.drew (h : Kept F a w) : Kept F a w.drew := ⟨h.os, h.tape, h.output, h.size, h.block⟩
theorem Kept.alloc (h : Kept F a w) (o : Obj) : Kept F a (w.alloc o) := h.trans (Kept.of_new ((Below.refl _ _).alloc (Nat.le_refl _) o))
theorem Kept.setCell (h : Kept F a w) {p : Addr} (hp : F p.block ∨ a.heap.size ≤ p.block) (u : Value) : Kept F a (w.setCell p u) :=
 h.then (G := fun k => k = p.block) ⟨rfl, rfl, rfl, by simp [World.setCell], fun k hk hn => Below.heap_setCell _ _ _ _ hn⟩ (by rintro i rfl; exact hp)
theorem Kept.grown (h : Kept F a w) {row : Option Nat} (hg : w.grownBy w' row) (hr : ∀ k, row = some k → F k ∨ a.heap.size ≤ k) : Kept F a w' :=
 h.then (G := fun k => row = some k) (Kept.of_grown hg fun k e => e) hr
theorem Kept.below (h : Kept F w w') (hF : ∀ k, F k → B ≤ k) (hB : B ≤ w.heap.size) : Below B w w' :=
 ⟨h.os, h.tape, h.output, h.size, fun k hk => h.block k (by omega) fun hf => by have := hF k hf; omega⟩
theorem Kept.cell (h : Kept F w w') {p : Addr} (hp : p.block < w.heap.size) (hn : ¬ F p.block) : w'.cell? p = w.cell? p := World.cell?_of_block (h.block _ hp hn)
theorem Kept.blk (h : Kept F w w') (hb : Blk w g t cs) (hn : ¬ F g) : Blk w' g t cs := (h.block g hb.lt hn).trans hb
theorem Kept.own (h : Kept F w w') {base size n : Nat} {e : TypeId} {v : Value} {xs : List Value} (ho : w.ownsRow base e size v n xs) (hn : ∀ k, v.ownBlock = some k → ¬ F k) : w'.ownsRow base e size v n xs := by
 refine ⟨ho.1, ?_⟩
 rcases ho.2 with h0 | ⟨g, cap, cur, rfl, hb, hh, h1, h2, h3, h4⟩
 ·exact .inl h0
 ·have hlt : g < w.heap.size := (ho.lt g rfl).2
  exact .inr ⟨g, cap, cur, rfl, hb, (h.block g hlt (hn g rfl)).trans hh, h1, h2, h3, h4⟩
end

theorem own_ne_blk {w : World} {base size n g : Nat} {e t : TypeId} {v : Value} {xs : List Value} {cs : Array Value} (ho : w.ownsRow base e size v n xs) (hb : Blk w g t cs) (hne : e ≠ t) : v.ownBlock ≠ some g := by
 rcases ho.2 with ⟨rfl, _⟩ | ⟨g', cap, cur, rfl, _, hh, _⟩
 ·simp [Value.ownBlock]
 ·intro he
  have : g' = g := by simpa [Value.ownBlock] using he
  subst this
  exact Blk.ne_ (t := e) hh hb hne rfl
theorem own_ne_own {w : World} {base base' size size' n n' g : Nat} {e e' : TypeId} {v v' : Value} {xs xs' : List Value} (ho : w.ownsRow base e size v n xs) (ho' : w.ownsRow base' e' size' v' n' xs') (hne : e ≠ e') (hg : v.ownBlock = some g) : v'.ownBlock ≠ some g := by
 rcases ho.2 with ⟨rfl, _⟩ | ⟨g', cap, cur, rfl, _, hh, _⟩
 ·simp [Value.ownBlock] at hg
 ·have : g' = g := by simpa [Value.ownBlock] using hg
  subst this
  exact own_ne_blk ho' (t := e) hh (fun h => hne h.symm)
end Go.Proofs.YtmmjckokjmpfpaaGreat

namespace Go.Proofs.YtmmjckokjmpfpaaGreat
open Go.RowKit
open Go.Lib hiding intOf
attribute [local go_sem ↓] Go.wp_at_zero Go.wp_at_succ

set_option maxRecDepth 100000 in
set_option maxHeartbeats 12800000 in
theorem rmay8_any (A : Option Addr) (n c : Nat) (l : List It) (w : World) (hr : Reads w w.heap.size 5 A n (itc l)) (hn : n ≤ 2513169434916) :
  Calls Tryz.prog 92 #[.slice A n c] w fun e w' => e = .returned (.bool (mayI l)) ∧ Below w.heap.size w w' := by
 have HL := Lib.hid (it_len hr)
 have HR := Lib.hid hr
 clear hr
 go_enter Tryz.func92, Tryz.ntmps92
 go_wp2_with fail
 go_loopw [3] (fun i wr => ∃ k : Nat, k ≤ n ∧ i = .int .i64 k ∧ Hid (∀ j, j < k → okAtI l j = true) ∧ Hid (Below w.heap.size w wr)) (fun i _ => n - (intOf i).toNat)
 case atStart => exact ⟨0, Nat.zero_le _, rfl, Lib.hid fun j hj => absurd hj (by omega), Lib.hid (Below.refl _ _)⟩
 case round =>
  obtain ⟨k, hk, rfl, HF, HB⟩ := hrel
  by_cases hlt : k < n
  ·obtain ⟨ad, x, rfl, _, hp, hx, hc⟩ := it_at HR.out hlt
   have HP := Lib.hid hp
   have hk0 : (0 : Int) ≤ k := by omega
   have hk1 : (k : Int) < n := by omega
   have HX := Lib.hid hx
   have hkl : k < l.length := by rw [HL.out]; exact hlt
   have HM := fun w => rmayone_any x w
   have HC := Lib.hid (show ItAt wr.drew (ad.add (k * 5)) x from ItAt.below (w' := wr) hc HB.out hp)
   have HBd := Lib.hid HB.out.drew
   go_upto_region 4 with fail
   clear hx hp
   rcases hok : okIt x with _ | _
   ·have HE := Lib.hid (show mayI l = false by rw [mayI, allOkI_no hkl (by rw [okAtI_of HX.out, hok]; rfl)]; rfl)
    rw [hok] at HM
    clear hkl hok hc
    refine wp_region_held_drew (S := (fun w' => w'.cell? (ad.add (k * 5)) = some (.string x.ky) ∧ w'.cell? ⟨(ad.add (k * 5)).block, (ad.add (k * 5)).off + 1, none⟩ = some (.string x.vl) ∧ w'.cell? ⟨(ad.add (k * 5)).block, (ad.add (k * 5)).off + 2, none⟩ = some (.bool x.ov) ∧ w'.cell? ⟨(ad.add (k * 5)).block, (ad.add (k * 5)).off + 3, none⟩ = some (.int .i64 x.ln) ∧ w'.cell? ⟨(ad.add (k * 5)).block, (ad.add (k * 5)).off + 4, none⟩ = some (.int .u32 x.hd))) (by kernel_rfl) (HC.out) (fun hHeld => ?_)
    refine tkA (i := 0) ?_
    try simp only [tkP]
    refine tkA (i := 1) ?_
    try simp only [tkP]
    refine tkA (i := 2) ?_
    try simp only [tkP]
    refine tkA (i := 3) ?_
    try simp only [tkP]
    refine wpAnyH_ready (rs := [4]) (by kernel_rfl) (by simp) ?_
    refine tkC (fun K hK => ?_)
    go_simp
    refine (HM _).mono ?_
    rintro e w2 ⟨rfl, hb⟩
    replace HC := Lib.hid (HC.out.below hb (Nat.lt_of_lt_of_le HP.out HBd.out.size))
    replace HBd := Lib.hid (HBd.out.trans (hb.mono HBd.out.size))
    clear hb
    refine hK.out _ _ (HC.out) (fun hHeld => ?_)
    clear hK K
    try simp only [tkP]
    refine tkA (i := 5) ?_
    try simp only [tkP]
    refine tkA (i := 6) ?_
    try simp only [tkP]
    refine tkU (i := 7) ?_
    try simp only [tkP]
    refine tkU (i := 8) ?_
    try simp only [tkP]
    refine tkU (i := 9) ?_
    try simp only [tkP]
    refine tkU (i := 10) ?_
    try simp only [tkP]
    refine tkU (i := 11) ?_
    try simp only [tkP]
    refine tkU (i := 12) ?_
    try simp only [tkP]
    refine tkU (i := 13) ?_
    try simp only [tkP]
    refine tkU (i := 14) ?_
    try simp only [tkP]
    refine tkU (i := 15) ?_
    try simp only [tkP]
    refine tkU (i := 16) ?_
    try simp only [tkP]
    refine tkU (i := 17) ?_
    try simp only [tkP]
    refine tkU (i := 18) ?_
    try simp only [tkP]
    refine tkU (i := 19) ?_
    try simp only [tkP]
    refine tkU (i := 20) ?_
    try simp only [tkP]
    refine tkU (i := 21) ?_
    try simp only [tkP]
    refine tkU (i := 22) ?_
    try simp only [tkP]
    refine tkA (i := 23) ?_
    try simp only [tkP]
    refine wpAnyH_done (by kernel_rfl) ?_ _
    go_wp2_with fail
    go_ret
    exact ⟨by rw [HE.out]; rfl, HBd.out⟩
   rw [hok] at HM
   by_cases hk00 : k = 0
   ·have HE := Lib.hid (show okAtI l k = true by rw [okAtI_of HX.out, hok, hk00]; rfl)
    have hk3 : decide ((k : Int) > 0) = false := by simp; omega
    have hk4 : decide (0 < k) = false := by simp; omega
    clear hk00 hok hkl hc
    refine wp_region_held_drew (S := (fun w' => w'.cell? (ad.add (k * 5)) = some (.string x.ky) ∧ w'.cell? ⟨(ad.add (k * 5)).block, (ad.add (k * 5)).off + 1, none⟩ = some (.string x.vl) ∧ w'.cell? ⟨(ad.add (k * 5)).block, (ad.add (k * 5)).off + 2, none⟩ = some (.bool x.ov) ∧ w'.cell? ⟨(ad.add (k * 5)).block, (ad.add (k * 5)).off + 3, none⟩ = some (.int .i64 x.ln) ∧ w'.cell? ⟨(ad.add (k * 5)).block, (ad.add (k * 5)).off + 4, none⟩ = some (.int .u32 x.hd))) (by kernel_rfl) (HC.out) (fun hHeld => ?_)
    refine tkA (i := 0) ?_
    try simp only [tkP]
    refine tkA (i := 1) ?_
    try simp only [tkP]
    refine tkA (i := 2) ?_
    try simp only [tkP]
    refine tkA (i := 3) ?_
    try simp only [tkP]
    refine wpAnyH_ready (rs := [4]) (by kernel_rfl) (by simp) ?_
    refine tkC (fun K hK => ?_)
    go_simp
    refine (HM _).mono ?_
    rintro e w2 ⟨rfl, hb⟩
    replace HC := Lib.hid (HC.out.below hb (Nat.lt_of_lt_of_le HP.out HBd.out.size))
    replace HBd := Lib.hid (HBd.out.trans (hb.mono HBd.out.size))
    clear hb
    refine hK.out _ _ (HC.out) (fun hHeld => ?_)
    clear hK K
    try simp only [tkP]
    refine tkA (i := 5) ?_
    try simp only [tkP]
    refine tkA (i := 6) ?_
    try simp only [tkP]
    refine tkA (i := 7) ?_
    try simp only [tkP]
    refine tkA (i := 8) ?_
    try simp only [tkP]
    refine tkA (i := 9) ?_
    try simp only [tkP]
    refine tkU (i := 10) ?_
    try simp only [tkP]
    refine tkU (i := 11) ?_
    try simp only [tkP]
    refine tkU (i := 12) ?_
    try simp only [tkP]
    refine tkU (i := 13) ?_
    try simp only [tkP]
    refine tkU (i := 14) ?_
    try simp only [tkP]
    refine tkU (i := 15) ?_
    try simp only [tkP]
    refine tkU (i := 16) ?_
    try simp only [tkP]
    refine tkU (i := 17) ?_
    try simp only [tkP]
    refine tkU (i := 18) ?_
    try simp only [tkP]
    refine tkU (i := 19) ?_
    try simp only [tkP]
    refine tkU (i := 20) ?_
    try simp only [tkP]
    refine tkU (i := 21) ?_
    try simp only [tkP]
    refine tkA (i := 22) ?_
    try simp only [tkP]
    refine tkA (i := 23) ?_
    try simp only [tkP]
    refine wpAnyH_done (by kernel_rfl) ?_ _
    have HF' := Lib.hid (fun j (hj : j < k + 1) => show okAtI l j = true from by
     by_cases hjk : j < k
     ·exact HF.out j hjk
     ·have e : j = k := by omega
      rw [e]; exact HE.out)
    go_wp2_with fail
    go_roundw
    case rel =>
     first
      | exact ⟨k + 1, by omega, by go_num, HF', HBd⟩
      | ((repeat apply Exists.intro); exact ⟨⟨k + 1, by omega, by go_num, HF', HBd⟩, rfl⟩)
    case measure => simp [intOf]; omega
   obtain ⟨j, hkj⟩ : ∃ j, k = j + 1 := ⟨k - 1, by omega⟩
   obtain ⟨ad', y, had, _, hpy, hy, hcy⟩ := it_at HR.out (show j < n by omega)
   injection had with had
   subst had
   have HPY := Lib.hid hpy
   have HY := Lib.hid (show wr.drew.cell? (ad.add (j * 5)) = some (.string y.ky) from (ItAt.below (w' := wr) hcy HB.out hpy).1)
   have hj1 : IntKind.i64.wrap ((k : Int) - 1) = (j : Int) := by rw [IntKind.wrap_i64]; omega
   have hj2 : (k : Int) - 1 = (j : Int) := by omega
   have hj5 : IntKind.i64.wrap (j : Int) = (j : Int) := by rw [IntKind.wrap_i64]; omega
   have hj3 : (0 : Int) ≤ j := by omega
   have hj4 : (j : Int) < n := by omega
   have hk3 : decide ((k : Int) > 0) = true := by simp; omega
   have hk4 : decide (0 < k) = true := by simp; omega
   have hat : okAtI l k = Op.bytesLess y.ky.toList x.ky.toList := by rw [okAtI_of HX.out, hok, hkj]; simp [hy]
   rcases hless : Op.bytesLess y.ky.toList x.ky.toList with _ | _
   ·have HE := Lib.hid (show mayI l = false by rw [mayI, allOkI_no hkl (by rw [hat, hless])]; rfl)
    clear hat hkl hok hy hkj hk00 hcy hpy hc
    refine wp_region_held_drew (S := (fun w' => (w'.cell? (ad.add (k * 5)) = some (.string x.ky) ∧ w'.cell? ⟨(ad.add (k * 5)).block, (ad.add (k * 5)).off + 1, none⟩ = some (.string x.vl) ∧ w'.cell? ⟨(ad.add (k * 5)).block, (ad.add (k * 5)).off + 2, none⟩ = some (.bool x.ov) ∧ w'.cell? ⟨(ad.add (k * 5)).block, (ad.add (k * 5)).off + 3, none⟩ = some (.int .i64 x.ln) ∧ w'.cell? ⟨(ad.add (k * 5)).block, (ad.add (k * 5)).off + 4, none⟩ = some (.int .u32 x.hd)) ∧ w'.cell? (ad.add (j * 5)) = some (.string y.ky))) (by kernel_rfl) (⟨HC.out, HY.out⟩) (fun hHeld => ?_)
    refine tkA (i := 0) ?_
    try simp only [tkP]
    refine tkA (i := 1) ?_
    try simp only [tkP]
    refine tkA (i := 2) ?_
    try simp only [tkP]
    refine tkA (i := 3) ?_
    try simp only [tkP]
    refine wpAnyH_ready (rs := [4]) (by kernel_rfl) (by simp) ?_
    refine tkC (fun K hK => ?_)
    go_simp
    refine (HM _).mono ?_
    rintro e w2 ⟨rfl, hb⟩
    replace HC := Lib.hid (HC.out.below hb (Nat.lt_of_lt_of_le HP.out HBd.out.size))
    replace HY := Lib.hid ((hb.cell (p := ad.add (j * 5)) (Nat.lt_of_lt_of_le HPY.out HBd.out.size)).trans HY.out)
    replace HBd := Lib.hid (HBd.out.trans (hb.mono HBd.out.size))
    clear hb
    refine hK.out _ _ (⟨HC.out, HY.out⟩) (fun hHeld => ?_)
    clear hK K
    try simp only [tkP]
    refine tkA (i := 5) ?_
    try simp only [tkP]
    refine tkA (i := 6) ?_
    try simp only [tkP]
    refine tkA (i := 7) ?_
    try simp only [tkP]
    refine tkA (i := 8) ?_
    try simp only [tkP]
    refine tkA (i := 9) ?_
    try simp only [tkP]
    refine tkA (i := 10) ?_
    try simp only [tkP]
    refine tkA (i := 11) ?_
    try simp only [tkP]
    refine tkA (i := 12) ?_
    try simp only [tkP]
    refine tkA (i := 13) ?_
    try simp only [tkP]
    refine tkA (i := 14) ?_
    try simp only [tkP]
    refine tkA (i := 15) ?_
    try simp only [tkP]
    refine tkA (i := 16) ?_
    try simp only [tkP]
    refine tkA (i := 17) ?_
    try simp only [tkP]
    refine tkA (i := 18) ?_
    try simp only [tkP]
    refine tkA (i := 19) ?_
    try simp only [tkP]
    refine tkA (i := 20) ?_
    try simp only [tkP]
    refine tkA (i := 21) ?_
    try simp only [tkP]
    refine tkA (i := 22) ?_
    try simp only [tkP]
    refine tkA (i := 23) ?_
    try simp only [tkP]
    refine wpAnyH_done (by kernel_rfl) ?_ _
    go_wp2_with fail
    go_ret
    exact ⟨by rw [HE.out]; rfl, HBd.out⟩
   ·have HE := Lib.hid (show okAtI l k = true by rw [hat, hless])
    clear hat hkl hok hy hkj hk00 hcy hpy hc
    refine wp_region_held_drew (S := (fun w' => (w'.cell? (ad.add (k * 5)) = some (.string x.ky) ∧ w'.cell? ⟨(ad.add (k * 5)).block, (ad.add (k * 5)).off + 1, none⟩ = some (.string x.vl) ∧ w'.cell? ⟨(ad.add (k * 5)).block, (ad.add (k * 5)).off + 2, none⟩ = some (.bool x.ov) ∧ w'.cell? ⟨(ad.add (k * 5)).block, (ad.add (k * 5)).off + 3, none⟩ = some (.int .i64 x.ln) ∧ w'.cell? ⟨(ad.add (k * 5)).block, (ad.add (k * 5)).off + 4, none⟩ = some (.int .u32 x.hd)) ∧ w'.cell? (ad.add (j * 5)) = some (.string y.ky))) (by kernel_rfl) (⟨HC.out, HY.out⟩) (fun hHeld => ?_)
    refine tkA (i := 0) ?_
    try simp only [tkP]
    refine tkA (i := 1) ?_
    try simp only [tkP]
    refine tkA (i := 2) ?_
    try simp only [tkP]
    refine tkA (i := 3) ?_
    try simp only [tkP]
    refine wpAnyH_ready (rs := [4]) (by kernel_rfl) (by simp) ?_
    refine tkC (fun K hK => ?_)
    go_simp
    refine (HM _).mono ?_
    rintro e w2 ⟨rfl, hb⟩
    replace HC := Lib.hid (HC.out.below hb (Nat.lt_of_lt_of_le HP.out HBd.out.size))
    replace HY := Lib.hid ((hb.cell (p := ad.add (j * 5)) (Nat.lt_of_lt_of_le HPY.out HBd.out.size)).trans HY.out)
    replace HBd := Lib.hid (HBd.out.trans (hb.mono HBd.out.size))
    clear hb
    refine hK.out _ _ (⟨HC.out, HY.out⟩) (fun hHeld => ?_)
    clear hK K
    try simp only [tkP]
    refine tkA (i := 5) ?_
    try simp only [tkP]
    refine tkA (i := 6) ?_
    try simp only [tkP]
    refine tkA (i := 7) ?_
    try simp only [tkP]
    refine tkA (i := 8) ?_
    try simp only [tkP]
    refine tkA (i := 9) ?_
    try simp only [tkP]
    refine tkA (i := 10) ?_
    try simp only [tkP]
    refine tkA (i := 11) ?_
    try simp only [tkP]
    refine tkA (i := 12) ?_
    try simp only [tkP]
    refine tkA (i := 13) ?_
    try simp only [tkP]
    refine tkA (i := 14) ?_
    try simp only [tkP]
    refine tkA (i := 15) ?_
    try simp only [tkP]
    refine tkA (i := 16) ?_
    try simp only [tkP]
    refine tkA (i := 17) ?_
    try simp only [tkP]
    refine tkA (i := 18) ?_
    try simp only [tkP]
    refine tkA (i := 19) ?_
    try simp only [tkP]
    refine tkA (i := 20) ?_
    try simp only [tkP]
    refine tkA (i := 21) ?_
    try simp only [tkP]
    refine tkA (i := 22) ?_
    try simp only [tkP]
    refine tkA (i := 23) ?_
    try simp only [tkP]
    refine wpAnyH_done (by kernel_rfl) ?_ _
    clear hj1 hj2 hj5
    have HF' := Lib.hid (fun j (hj : j < k + 1) => show okAtI l j = true from by
     by_cases hjk : j < k
     ·exact HF.out j hjk
     ·have e : j = k := by omega
      rw [e]; exact HE.out)
    go_wp2_with fail
    go_roundw
    case rel =>
     first
      | exact ⟨k + 1, by omega, by go_num, HF', HBd⟩
      | ((repeat apply Exists.intro); exact ⟨⟨k + 1, by omega, by go_num, HF', HBd⟩, rfl⟩)
    case measure => simp [intOf]; omega
  ·obtain rfl : k = n := by omega
   have ha : allOkI l = true := allOkI_yes fun j hj => HF.out j (by rw [← HL.out]; exact hj)
   have HE := Lib.hid (show mayI l = decide (0 < k) by rw [mayI, ha, HL.out]; rfl)
   clear ha hlt
   go_wp2_with fail
   go_ret
   exact ⟨by rw [HE.out]; rfl, HB.out⟩
end Go.Proofs.YtmmjckokjmpfpaaGreat

