/-
  Contract of cursor.traverse: it tells the pairs of a tree, one after the other, to whatever hears them.
-/
import Derived.Sort.LoopGhostIn
import Derived.Sort.CutIn
import Derived.Deep.RegionHeld3
import Derived.Deep.DrawnRows
import Derived.Test.YtmmjckokjmpfpaaGreatJ3
import Derived.Test.YtmmjckokjmpfpaaGreatJ38
import Derived.Test.YtmmjckokjmpfpaaGreatJ31
set_option linter.unusedVariables false
set_option linter.unusedSimpArgs false
namespace Go.Proofs.YtmmjckokjmpfpaaGreat
open Go.RowKit Go.Shelf
attribute [local go_sem] Oper.semAt_some
attribute [local go_sem ↓] Go.wp_at_zero Go.wp_at_succ

structure Far (bv bm : Nat) (V : Value) (U : Nat → Prop) (w : World) (V' : Value) (U' : Nat → Prop) (w' : World) : Prop where
 kept : Kept (fun k => FV bv bm V k ∨ U k) w w'
 own : ∀ k, U' k → U k ∨ w.heap.size ≤ k
 vis : ∀ k, FV bv bm V' k → FV bv bm V k ∨ w.heap.size ≤ k
section
variable {bv bm : Nat} {V V1 V2 : Value} {U U1 U2 : Nat → Prop} {w w1 w2 : World}
theorem Far.refl (bv bm : Nat) (V : Value) (U : Nat → Prop) (w : World) : Far bv bm V U w V U w := ⟨Kept.refl _ _, fun _ h => .inl h, fun _ h => .inl h⟩
theorem Far.trans (h : Far bv bm V U w V1 U1 w1) (k : Far bv bm V1 U1 w1 V2 U2 w2) : Far bv bm V U w V2 U2 w2 := by
 have hs := h.kept.size
 refine ⟨h.kept.then k.kept fun i hi => ?_, fun i hi => ?_, fun i hi => ?_⟩
 ·rcases hi with hi | hi
  ·rcases h.vis i hi with h1 | h1
   ·exact .inl (.inl h1)
   ·exact .inr h1
  ·rcases h.own i hi with h1 | h1
   ·exact .inl (.inr h1)
   ·exact .inr h1
 ·rcases k.own i hi with h1 | h1
  ·exact h.own i h1
  ·right; omega
 ·rcases k.vis i hi with h1 | h1
  ·exact h.vis i h1
  ·right; omega
theorem Far.of_below (h : Below w.heap.size w w1) : Far bv bm V U w V U w1 := ⟨Kept.of_new h, fun _ h => .inl h, fun _ h => .inl h⟩
theorem Far.of_visit (h : Kept (FV bv bm V) w w1) (hv : ∀ g, V1.ownBlock = some g → V.ownBlock = some g ∨ w.heap.size ≤ g) : Far bv bm V U w V1 U w1 :=
 ⟨h.mono fun _ h => .inl h, fun _ h => .inl h, fun k hk => by
  rcases hk with h1 | h1 | h1
  ·exact .inl (.inl h1)
  ·exact .inl (.inr (.inl h1))
  ·rcases hv k h1 with h2 | h2
   ·exact .inl (.inr (.inr h2))
   ·exact .inr h2⟩
theorem Far.of_round {β : Type} {J : β → (Nat → Prop) → World → Prop} {xs : β} (h : RoundU J xs U w w1) : ∃ U', Far bv bm V U w V U' w1 ∧ J xs U' w1 := by
 obtain ⟨U', h1, h2, h3⟩ := h
 exact ⟨U', ⟨h2.mono fun _ h => .inr h, h1, fun _ h => .inl h⟩, h3⟩
theorem Far.blk (h : Far bv bm V U w V1 U1 w1) {g : Nat} {t : TypeId} {cs : Array Value} (hb : Blk w g t cs) (h1 : ¬ FV bv bm V g) (h2 : ¬ U g) : Blk w1 g t cs := h.kept.blk hb (fun h => h.elim h1 h2)
end
def TravPost (bv bm : Nat) (sz : Int) (img : ByteArray) (J Jx : List (Pr × Int) → (Nat → Prop) → World → Prop) (pre : List (Pr × Int)) (V : Value) (U : Nat → Prop) (w : World) (t : Tv) (e : Ending) (w' : World) : Prop :=
 ∃ (V' : Value) (U' : Nat → Prop), Far bv bm V U w V' U' w' ∧
  ((∃ M, t.2 = some M ∧ e = .returned (.bool true) ∧ Vis w' bv bm sz img M V' ∧ (∀ k, FV bv bm V' k → ¬ U' k) ∧ J (pre ++ stepsV t) U' w')
  ∨ (e = .returned (.bool false) ∧ t.2 = none ∧ J (pre ++ stepsV t) U' w')
  ∨ (e = .returned (.bool false) ∧ ∃ q, q <+: stepsV t ∧ Jx (pre ++ q) U' w'))
theorem TravPost.of_fail {bv bm : Nat} {sz : Int} {img : ByteArray} {J Jx : List (Pr × Int) → (Nat → Prop) → World → Prop} {pre : List (Pr × Int)} {V V1 : Value} {U U1 : Nat → Prop} {w w1 : World} {e : Ending} {w' : World} {t : Tv} {xs : List Pr}
  (hf : Far bv bm V U w V1 U1 w1) (ht : t = (xs, none)) (h : FailPost J Jx (pre ++ xs.map (fun p => (p, (0 : Int))) ++ [(Pr.zero, 4)]) U1 w1 e w') : TravPost bv bm sz img J Jx pre V U w t e w' := by
 subst ht
 obtain ⟨rfl, h⟩ := h
 rcases h with h | h
 ·obtain ⟨U', h1, h2⟩ := Far.of_round (bv := bv) (bm := bm) (V := V1) h
  exact ⟨V1, U', hf.trans h1, .inr (.inl ⟨rfl, rfl, by rw [stepsV_none, ← List.append_assoc]; exact h2⟩)⟩
 ·obtain ⟨U', h1, h2⟩ := Far.of_round (bv := bv) (bm := bm) (V := V1) h
  exact ⟨V1, U', hf.trans h1, .inr (.inr ⟨rfl, _, List.prefix_rfl, by rw [stepsV_none, ← List.append_assoc]; exact h2⟩)⟩
theorem stab_far {J : List (Pr × Int) → (Nat → Prop) → World → Prop} (hs : StabU J) {bv bm : Nat} {V : Value} {pre : List (Pr × Int)} {U : Nat → Prop} {w w' : World} (hj : J pre U w) (hk : Kept (FV bv bm V) w w') (hd : ∀ k, FV bv bm V k → ¬ U k) : J pre U w' :=
 hs _ _ _ _ hj (KeepsU.of_kept hk fun k hu hf => hd k hf hu)
def NodeIs (o : Nd) (B : Nat) (w : World) (kd : Int) (A : Option Addr) (n c : Nat) (A2 : Option Addr) (n2 c2 : Nat) : Prop := match o with
 | .none => kd = 0
 | .br l => kd = 3 ∧ ReadsN B w 2 A n (fkc l) ∧ n ≤ c ∧ c ≤ maxLen ∧ n2 = 0
 | .lf l => kd = 4 ∧ n = 0 ∧ ReadsN B w 5 A2 n2 (itc l) ∧ n2 ≤ c2 ∧ c2 ≤ maxLen
theorem NodePost.letters {o : Nd} {w : World} {e : Ending} {w' : World} (h : NodePost o w e w') : ∃ kd A n c A2 n2 c2, e = .returned (.agg #[.int .i64 kd, .slice A n c, .slice A2 n2 c2]) ∧ Below w.heap.size w w' ∧ NodeIs o w.heap.size w' kd A n c A2 n2 c2 := by
 obtain ⟨hb, h⟩ := h
 cases o with
 | none => exact ⟨0, none, 0, 0, none, 0, 0, h, hb, rfl⟩
 | br l =>
  obtain ⟨A, n, c, h1, h2, h3, h4⟩ := h
  exact ⟨3, A, n, c, none, 0, 0, h1, hb, rfl, h2, h3, h4, rfl⟩
 | lf l =>
  obtain ⟨A, n, c, h1, h2, h3, h4⟩ := h
  exact ⟨4, none, 0, 0, A, n, c, h1, hb, rfl, rfl, h2, h3, h4⟩
theorem ReadsN.keep {B B' : Nat} {w w' : World} {size n : Nat} {A : Option Addr} {xs : List Value} (h : ReadsN B w size A n xs) (hs : w.heap.size ≤ w'.heap.size) (hB : B' ≤ B) (hk : ∀ p : Addr, B ≤ p.block → p.block < w.heap.size → w'.cell? p = w.cell? p) : ReadsN B' w' size A n xs := by
 refine ⟨⟨h.1.1, fun hn => ?_⟩, fun ad e => Nat.le_trans hB (h.2 ad e)⟩
 obtain ⟨ad, e, hb, hc⟩ := h.1.2 hn
 exact ⟨ad, e, by omega, fun j u hu => (hk _ (by rw [block_add]; exact h.2 ad e) (by rw [block_add]; exact hb)).trans (hc j u hu)⟩
theorem NodeIs.keep {o : Nd} {B B' : Nat} {w w' : World} {kd : Int} {A : Option Addr} {n c : Nat} {A2 : Option Addr} {n2 c2 : Nat} (h : NodeIs o B w kd A n c A2 n2 c2) (hs : w.heap.size ≤ w'.heap.size) (hB : B' ≤ B) (hk : ∀ p : Addr, B ≤ p.block → p.block < w.heap.size → w'.cell? p = w.cell? p) : NodeIs o B' w' kd A n c A2 n2 c2 := by
 cases o with
 | none => exact h
 | br l => exact ⟨h.1, h.2.1.keep hs hB hk, h.2.2⟩
 | lf l => exact ⟨h.1, h.2.1, h.2.2.1.keep hs hB hk, h.2.2.2⟩
def NodeAtW (o : Nd) (w : World) (p : Value) (wx : World) : Prop := ∃ (g : Nat) (kd : Int) (A : Option Addr) (n c : Nat) (A2 : Option Addr) (n2 c2 : Nat), p = .pointer (some ⟨g, 0, none⟩) ∧ w.heap.size ≤ g ∧ Below w.heap.size w wx ∧ Blk wx g 136 #[.int .i64 kd, .slice A n c, .slice A2 n2 c2] ∧ NodeIs o w.heap.size wx kd A n c A2 n2 c2
theorem NodeAtW.late {o : Nd} {w w3 : World} {kd : Int} {A : Option Addr} {n c : Nat} {A2 : Option Addr} {n2 c2 : Nat} (hb : Below w.heap.size w w3) (h : NodeIs o w.heap.size w3 kd A n c A2 n2 c2) :
  NodeAtW o w (.pointer (some ⟨w3.heap.size, 0, none⟩)) (w3.alloc (.cells #[.int .i64 kd, .slice A n c, .slice A2 n2 c2] 136)) :=
 ⟨_, kd, A, n, c, A2, n2, c2, rfl, hb.size, hb.alloc hb.size _, Blk.new _ _ _, h.keep (by simp) (Nat.le_refl _) fun p _ hp => World.cell?_alloc_lt _ _ _ hp⟩
theorem NodeAtW.early {o : Nd} {w w3 : World} {kd : Int} {A : Option Addr} {n c : Nat} {A2 : Option Addr} {n2 c2 : Nat} {a0 a1 a2 : Value} (hb : Below (w.heap.size + 1) (w.alloc (.cells #[a0, a1, a2] 136)) w3) (h : NodeIs o (w.heap.size + 1) w3 kd A n c A2 n2 c2) :
  NodeAtW o w (.pointer (some ⟨w.heap.size, 0, none⟩)) (((w3.setCell ⟨w.heap.size, 0, none⟩ (.int .i64 kd)).setCell ⟨w.heap.size, 1, none⟩ (.slice A n c)).setCell ⟨w.heap.size, 2, none⟩ (.slice A2 n2 c2)) := by
 refine ⟨_, kd, A, n, c, A2, n2, c2, rfl, Nat.le_refl _, below3 _ _ _ (((Below.refl _ w).alloc (Nat.le_refl _) _).trans (hb.mono (Nat.le_succ _))) (Nat.le_refl _), set3 _ _ _ ((Blk.new w _ _).below hb (Nat.lt_succ_self _)), h.keep (by simp [World.setCell]) (Nat.le_succ _) fun p hp _ => ?_⟩
 rw [World.cell?_setCell_other _ _ _ _ (fun e => by subst e; simp at hp; omega), World.cell?_setCell_other _ _ _ _ (fun e => by subst e; simp at hp; omega), World.cell?_setCell_other _ _ _ _ (fun e => by subst e; simp at hp; omega)]
theorem pre_trans {α : Type} {pre a b XS : List α} (h : a <+: b) (hx : pre ++ b <+: XS) : pre ++ a <+: XS := by
 obtain ⟨r, rfl⟩ := h
 obtain ⟨z, rfl⟩ := hx
 exact ⟨r ++ z, by simp⟩
theorem round_vis {β : Type} {J : β → (Nat → Prop) → World → Prop} {xs : β} {bv bm : Nat} {sz : Int} {img : ByteArray} {M : List Nat} {V : Value} {U : Nat → Prop} {w w1 : World} (h : RoundU J xs U w w1) (hv : Vis w bv bm sz img M V) (hd : ∀ k, FV bv bm V k → ¬ U k) :
  ∃ U', Far bv bm V U w V U' w1 ∧ J xs U' w1 ∧ Vis w1 bv bm sz img M V ∧ ∀ k, FV bv bm V k → ¬ U' k := by
 obtain ⟨U', h1, h2, h3⟩ := h
 refine ⟨U', ⟨h2.mono fun _ h => .inr h, h1, fun _ h => .inl h⟩, h3, hv.kept h2 hd, fun k hk hu => ?_⟩
 rcases h1 k hu with h4 | h4
 ·exact hd k hk h4
 ·have := hv.ltF k hk
  omega
def ValAt (size : Int) (o : Option (ByteArray × List Nat)) (w : World) (p14 p15 p16 : Value) (wx : World) : Prop := ∃ A n c, p14 = .string (rdStr o) ∧ p15 = .slice A n c ∧ p16 = .int .i64 (valE size o) ∧ ReadsN w.heap.size wx 1 A n (ucells (rdPs o)) ∧ Below w.heap.size w wx
theorem readV_num {size : Int} {s : ByteArray} {head : Nat} {len : Int} {v : ByteArray} {ps : List Nat} (h : readV size s head len = some (v, ps)) : ∀ x ∈ ps, x < 4294967296 := by
 unfold readV at h
 split at h
 ·split at h
  ·split at h
   ·injection h with h
    injection h with _ h
    subst h
    intro x hx
    obtain ⟨p, hp, rfl⟩ := List.mem_map.1 hx
    have h1 := (readAt_some (chain_mem_read hp)).2.2.2
    simp only [mayPg, Bool.and_eq_true, decide_eq_true_eq] at h1
    omega
   ·cases h
  ·cases h
 ·cases h
theorem chain_nodup {size : Int} {s : ByteArray} {kd : Int} {head : Nat} : ((chainL size s kd head).map (·.pg)).Nodup := by
 have : ∀ {P : Nat} {L : List Pg}, Fresh P L → (L.map (·.pg)).Nodup := fun {P L} => by
  induction L with
  | nil => intro _; simp
  | cons p t ih =>
   rintro ⟨_, h2, h3⟩
   rw [List.map_cons, List.nodup_cons]
   refine ⟨fun hm => ?_, ih h3⟩
   obtain ⟨q, hq, he⟩ := List.mem_map.1 hm
   unfold wasIn at h2
   rw [List.any_eq_false] at h2
   exact h2 q hq (by simpa using he)
 exact this (along_fresh s.size)
theorem valN_len {size : Int} {s : ByteArray} {i : It} {v : ByteArray} {ps : List Nat} (h : valN size s i = some (v, ps)) : ps.length ≤ s.size ∧ ∀ x ∈ ps, x < 4294967296 := by
 have hp := valN_pages h
 unfold valN at h
 split at h
 ·refine ⟨nodup_le ?_ hp, readV_num h⟩
  unfold readV at h
  split at h
  ·split at h
   ·split at h
    ·injection h with h
     injection h with _ h
     exact h ▸ chain_nodup
    ·cases h
   ·cases h
  ·cases h
 ·injection h with h
  injection h with _ h
  subst h
  exact ⟨Nat.zero_le _, fun x hx => by cases hx⟩
theorem infoFkz : (Tryz.prog.info? 45).map (fun i => (i.zero, i.size)) = some (some (.agg #[.string ByteArray.empty, .int .u32 0]), 2) := by kernel_rfl
theorem fork_num {sz : Int} {img : ByteArray} {n k : Nat} {l : List Fk} {x : Fk} (h : nodeN sz img n = .br l) (hx : l[k]? = some x) : x.rt < 4294967296 := by
 obtain ⟨p, hp, hf⟩ := node_some h
 have h1 := allOkF_ok (readF_kd hf).2.2.2 hx
 simp only [okFk, numB, Bool.and_eq_true, decide_eq_true_eq] at h1
 omega
theorem item_num {sz : Int} {img : ByteArray} {n k : Nat} {l : List It} {x : It} (h : nodeN sz img n = .lf l) (hx : l[k]? = some x) : x.hd < 4294967296 ∧ (-9223372036854775808 ≤ x.ln ∧ x.ln ≤ 9223372036854775807) := by
 obtain ⟨p, hp, _, hf⟩ := leaf_some h
 have h1 := allOkI_ok (readI_kd hf).2.2.2.1 hx
 unfold okIt at h1
 split at h1
 ·simp only [numB, Bool.and_eq_true, decide_eq_true_eq] at h1
  omega
 ·simp only [Bool.and_eq_true, decide_eq_true_eq] at h1
  omega
theorem fork_size {sz : Int} {img : ByteArray} {n : Nat} {l : List Fk} (h : nodeN sz img n = .br l) : l.length ≤ 100000 := by
 obtain ⟨p, hp, hf⟩ := node_some h
 have h1 := readAt_body hp
 unfold readF at hf
 split at hf
 ·cases hf
 ·rename_i l' r hpar
  split at hf
  ·injection hf with hf
   subst hf
   have h2 := parseF_size hpar
   have h3 := five_le l'
   rw [size_list] at h2
   omega
  ·cases hf
theorem item_size {sz : Int} {img : ByteArray} {n : Nat} {l : List It} (h : nodeN sz img n = .lf l) : l.length ≤ 100000 := by
 obtain ⟨p, hp, _, hf⟩ := leaf_some h
 have h1 := readAt_body hp
 have h2 := (readI_kd hf).2.2.2.2
 have h3 := three_le l
 omega
set_option maxRecDepth 100000 in
set_option maxHeartbeats 12800000 in
theorem traverse_any {XS : List (Pr × Int)} {J Jx : List (Pr × Int) → (Nat → Prop) → World → Prop} {yv : Value} (H : Hears XS J Jx yv) (sz : Int) (img : ByteArray) (bv bm : Nat) (hi : img.size ≤ 400000) :
  ∀ (d depth : Nat), depth + d = 17 → ∀ (n : Nat) (L : List Nat) (V : Value) (pre : List (Pr × Int)) (U : Nat → Prop) (w : World), n < 4294967296 → InL img L → Vis w bv bm sz img L V → (∀ k, FV bv bm V k → ¬ U k) → J pre U w → pre ++ stepsV (trav sz img d n L) <+: XS →
   Calls Tryz.prog 78 #[.pointer (some ⟨bv, 0, none⟩), .int .u32 n, .int .i64 depth, yv] w (TravPost bv bm sz img J Jx pre V U w (trav sz img d n L)) := by
 intro d
 induction d with
 | zero =>
  intro depth hd n L V pre U w hn hL hv hdj hj hx
  obtain rfl : depth = 17 := by omega
  have hwf : Fence.wide.fn 106 = True := rfl
  have HF := Lib.hid (fail_any H 8 pre U w hj (by simpa [trav, stepsV] using hx))
  clear hn hL hv hdj hj hx hd
  refine (callsIn_wide (n := 9)).1 ?_
  refine callsIn_of_wp Tryz.func78 rfl trivial ?_ rfl
  simp only [Tryz.ntmps78, List.size_toArray, List.length_cons, List.length_nil, Nat.reduceAdd, Nat.reduceSub, Array.replicate_succ, Array.replicate_zero, List.push_toArray, List.append_toArray, List.nil_append, List.cons_append]
  gi_wp2
  refine ⟨trivial, ?_⟩
  refine HF.out.mono ?_
  rintro e w1 h
  have HP := Lib.hid (TravPost.of_fail (bv := bv) (bm := bm) (sz := sz) (img := img) (V := V) (t := trav sz img 0 n L) (xs := []) (Far.refl bv bm V U w) rfl (by simpa using h))
  obtain ⟨rfl, _⟩ := h
  gi_wp2
  go_ret
  exact HP.out
 | succ d ih =>
  intro depth hd n L V pre U w hn hL hv hdj hj hx
  have hd16 : depth ≤ 16 := by omega
  have hgd : decide ((16 : Int) < (depth : Int)) = false := by simp; omega
  obtain ⟨w1, hw1⟩ : ∃ y, y = w.alloc (.cells #[.int .u32 (n : Int)] 23) := ⟨_, rfl⟩
  have hb1 : Below w.heap.size w w1 := by rw [hw1]; exact (Below.refl _ _).alloc (Nat.le_refl _) _
  have hv1 : Vis w1 bv bm sz img L V := hv.below hb1
  have hr1 : Reads w1 w1.heap.size 1 (some ⟨w.heap.size, 0, none⟩) 1 (ucells [n]) := by
   rw [hw1]
   exact (reads_own (n := 1) (Blk.new w 23 #[.int .u32 (n : Int)]) rfl).more (by simp)
  have HVi := Lib.hid (visit_any bv bm sz img L [n] V (some ⟨w.heap.size, 0, none⟩) 1 1 w1 hv1 hr1 (fun ad e hf => by injection e with e; subst e; have := hv.ltF _ hf; simp at this) (by simpa using hn) (by have := hL.len; omega))
  have HDj := Lib.hid hdj
  have HF1 := Lib.hid (Far.of_below (bv := bv) (bm := bm) (V := V) (U := U) hb1)
  have HJ1 := Lib.hid (H.sJ _ _ _ _ hj (KeepsU.of_below hb1))
  have HX := Lib.hid hx
  have HL := Lib.hid hL
  have HN := Lib.hid hn
  have HSz := Lib.hid hi
  have HD := Lib.hid hd
  have HLt := Lib.hid (show ∀ k, U k → k < w.heap.size from H.lJ _ _ _ hj)
  clear hb1 hv1 hr1 hv hdj hj hx hL hn hd
  have IH := Lib.hid ih
  clear ih
  obtain ⟨hzn, hin⟩ := zero_of_info infoNodez
  have HIN := Lib.hid hin
  clear hin
  refine (callsIn_wide (n := 9)).1 ?_
  refine callsIn_of_wp Tryz.func78 rfl trivial ?_ rfl
  simp only [Tryz.ntmps78, List.size_toArray, List.length_cons, List.length_nil, Nat.reduceAdd, Nat.reduceSub, Array.replicate_succ, Array.replicate_zero, List.push_toArray, List.append_toArray, List.nil_append, List.cons_append]
  gi_wp2
  rw [← hw1]
  clear hw1
  refine ⟨trivial, ?_⟩
  refine (callsIn_wide.2 HVi.out).mono ?_
  rintro e w2 hp
  obtain ⟨hk, hp⟩ := hp
  clear HVi
  by_cases hm : n ∈ L
  ·have hvl : visitL L [n] = none := by simp [visitL, hm]
   have ht : trav sz img (d + 1) n L = ([], none) := by simp [trav, hm]
   rw [hvl] at hp
   subst hp
   have FF := Lib.hid (HF1.out.trans (Far.of_visit (V1 := V) hk (fun g h => .inl h)))
   have HFa := Lib.hid (fail_any H 8 pre U w2 (stab_far H.sJ HJ1.out hk HDj.out) (by have h := HX.out; rw [ht] at h; simpa [stepsV] using h))
   have HT := Lib.hid ht
   clear hk ht hvl hm HF1 HJ1 HX
   gi_wp2
   refine ⟨trivial, ?_⟩
   refine HFa.out.mono ?_
   rintro e w3 h
   have HP := Lib.hid (TravPost.of_fail (sz := sz) (img := img) (t := trav sz img (d + 1) n L) (xs := []) FF.out HT.out (by simpa using h))
   obtain ⟨rfl, _⟩ := h
   gi_wp2
   go_ret
   exact HP.out
  have hvl : visitL L [n] = some (L ++ [n]) := by simp [visitL, hm]
  rw [hvl] at hp
  obtain ⟨rfl, V1, hv2, hg2⟩ := hp
  have HTr := Lib.hid (show trav sz img (d + 1) n L = match nodeN sz img n with
    | .none => ([], none)
    | .lf l => itemsT sz img l (L ++ [n])
    | .br l => forksT (trav sz img d) l (L ++ [n]) by simp only [trav, if_neg hm]; rfl)
  have F2 := Lib.hid (HF1.out.trans (Far.of_visit (U := U) hk hg2))
  have J2 := Lib.hid (stab_far H.sJ HJ1.out hk HDj.out)
  have V2 := Lib.hid hv2
  have HS1 := Lib.hid HF1.out.kept.size
  have HDj3 := Lib.hid (show ∀ k, FV bv bm V1 k → ¬ U k from fun k hf hu => by
   rcases F2.out.vis k hf with h1 | h1
   ·exact HDj.out k h1 hu
   ·have := HLt.out k hu
    omega)
  have HNm := Lib.hid hm
  clear hm hvl hg2 hv2 hk HF1 HJ1 HS1 HDj
  have v0 := V2.out.blk.cell 0
  have v1 := V2.out.blk.cell 1
  simp at v0 v1
  have HNd := Lib.hid (fun w => nodeAt_any sz img n w (by have := HSz.out; omega) HN.out)
  gi_upto_region 3 with fail
  have HB2 := Lib.hid (show w.heap.size ≤ w2.heap.size from F2.out.kept.size)
  obtain ⟨o, ho⟩ : ∃ o, o = nodeN sz img n := ⟨_, rfl⟩
  rw [← ho] at HNd HTr
  have HO := Lib.hid ho
  clear ho
  have hmx : Tryz.prog.follows .mixedOrders = true := by kernel_rfl
  gi_cut [9] from 98 (fun p wx => NodeAtW o w2 p wx)
  case first =>
   have d0 := (V2.out.blk.drew.alloc (.cells #[.int .i64 0, .slice none 0 0, .slice none 0 0] 136)).cell 0
   have d1 := (V2.out.blk.drew.alloc (.cells #[.int .i64 0, .slice none 0 0, .slice none 0 0] 136)).cell 1
   simp at d0 d1
   have d2 := (V2.out.blk.alloc (.cells #[.int .i64 0, .slice none 0 0, .slice none 0 0] 136)).drew.cell 0
   have d3 := (V2.out.blk.alloc (.cells #[.int .i64 0, .slice none 0 0, .slice none 0 0] 136)).drew.cell 1
   simp at d2 d3
   gi_region_with_o (refine ⟨trivial, ?_⟩; gi_at_call 73; refine (callsIn_wide.2 (HNd.out _)).mono ?_; rintro e w3 hp; obtain ⟨kd, A, n1, c1, A2, n2, c2, rfl, hb3, hni⟩ := hp.letters; clear hp; first | (have nb : Blk w3 w2.heap.size 136 #[.int .i64 0, .slice none 0 0, .slice none 0 0] := (Blk.new w2 136 #[.int .i64 0, .slice none 0 0, .slice none 0 0]).drew.below hb3 (by simp); have n0 := nb.cell 0; have n1' := nb.cell 1; have n2' := nb.cell 2; have m0 := nb.frozen 0; have m1 := nb.frozen 1; have m2 := nb.frozen 2; simp at n0 n1' n2') | skip)
   all_goals
    gi_wp2
    gi_meet
    case rel =>
     first
      | exact NodeAtW.late ((Below.refl _ w2).drew.trans hb3) hni
      | exact NodeAtW.early ((Below.refl (w2.heap.size + 1) (w2.alloc (.cells #[.int .i64 0, .slice none 0 0, .slice none 0 0] 136))).drew.trans (hb3.mono (by simp))) (by simpa using hni)
  case rest =>
   obtain ⟨gP, kd, A, n1, c1, A2, n2, c2, rfl, hgP, hbc, hbl, hni⟩ := hcut
   have PN := Lib.hid hbl
   have F3 := Lib.hid (F2.out.trans (Far.of_below (bv := bv) (bm := bm) (V := V1) (U := U) hbc))
   have J3 := Lib.hid (H.sJ _ _ _ _ J2.out (KeepsU.of_below hbc))
   have V3 := Lib.hid (V2.out.below hbc)
   have HA3 := Lib.hid (show ∀ g, w2.heap.size ≤ g → ¬ FV bv bm V1 g ∧ ¬ U g from fun g hg => ⟨fun h => by have := V2.out.ltF g h; omega, fun h => by have := HLt.out g h; have := HB2.out; omega⟩)
   have HgP := Lib.hid hgP
   have HL3 := Lib.hid (show nodeN sz img n ≠ .none → InL img (L ++ [n]) from fun h => HL.out.snoc HNm.out (node_lt h))
   clear hgP hbl hbc F2 J2 V2 HNd v0 v1
   have p0 := PN.out.cell 0
   have p1 := PN.out.cell 1
   have p2 := PN.out.cell 2
   simp at p0 p1 p2
   cases o with
   | none =>
    obtain rfl : kd = 0 := hni
    have HFa := Lib.hid (fail_any H 8 pre U wc J3.out (by have h := HX.out; rw [HTr.out] at h; simpa [stepsV] using h))
    clear p1 p2
    gi_wp2
    refine ⟨trivial, ?_⟩
    refine HFa.out.mono ?_
    rintro e w4 h
    have HP := Lib.hid (TravPost.of_fail (sz := sz) (img := img) (t := trav sz img (d + 1) n L) (xs := []) F3.out HTr.out (by simpa using h))
    obtain ⟨rfl, _⟩ := h
    gi_wp2
    go_ret
    exact HP.out
   | br l =>
    obtain ⟨rfl, hrn, hnc, hcm, rfl⟩ := hni
    have hnl : l.length = n1 := fk_len hrn.1
    have RF := Lib.hid hrn.1
    have HA := Lib.hid (fun ad (e : A = some ad) => HA3.out ad.block (hrn.2 ad e))
    have hn9 : n1 ≤ 100000 := by rw [← hnl]; exact fork_size HO.out.symm
    have HNl := Lib.hid hnl
    have HL4 := Lib.hid (HL3.out (by rw [← HO.out]; simp))
    have HT4 := Lib.hid (show trav sz img (d + 1) n L = forksT (trav sz img d) l (L ++ [n]) from HTr.out)
    have hd9 : depth < 17 := by have := HD.out; omega
    obtain ⟨hzf, hif⟩ := zero_of_info infoFkz
    have HIF := Lib.hid hif
    have HDc := Lib.hid HDj3.out
    clear hrn hnc hcm hnl hif HTr HL3
    have HF0 := Lib.hid (Far.refl bv bm V1 U wc)
    have HJ0 := Lib.hid (show J (pre ++ ([] : List Pr).map (fun p => (p, (0 : Int)))) U wc by simpa using J3.out)
    gi_upto_region 7 with fail
    clear p0 p1
    gi_loopw [46] (fun v wr => ∃ (k : Nat) (M : List Nat) (V' : Value) (U' : Nat → Prop) (xs : List Pr), k ≤ n1 ∧ v = .int .i64 k ∧ Hid (forksT (trav sz img d) (l.take k) (L ++ [n]) = (xs, some M)) ∧ Hid (Vis wr bv bm sz img M V') ∧ Hid (∀ k, FV bv bm V' k → ¬ U' k) ∧ Hid (J (pre ++ xs.map (fun p => (p, (0 : Int)))) U' wr) ∧ Hid (Far bv bm V1 U wc V' U' wr)) (fun v _ => n1 - (RowKit.intOf v).toNat)
    case atStart => exact ⟨0, L ++ [n], V1, U, [], Nat.zero_le _, rfl, Lib.hid rfl, V3, HDc, HJ0, HF0⟩
    case round =>
     clear HJ0 HF0
     obtain ⟨k, M, V', U', xs, hk, rfl, HFk, HVk, HDk, HJk, HFr⟩ := hrel
     by_cases hlt : k < n1
     ·obtain ⟨ad, x, rfl, hab, hab2, hx, hfk⟩ := fk_at RF.out hlt
      have hrt := fork_num HO.out.symm hx
      have hb2 := HA.out ad rfl
      have f0 := (HFr.out.kept.cell (p := ad.add (k * 2)) hab2 (fun h => by rw [block_add] at h; exact h.elim hb2.1 hb2.2)).trans hfk.1
      have f1 := (HFr.out.kept.cell (p := ⟨(ad.add (k * 2)).block, (ad.add (k * 2)).off + 1, none⟩) hab2 (fun h => by rw [show (⟨(ad.add (k * 2)).block, (ad.add (k * 2)).off + 1, none⟩ : Addr).block = ad.block from block_add _ _] at h; exact h.elim hb2.1 hb2.2)).trans hfk.2
      obtain ⟨nm, rt⟩ := x
      dsimp only at f0 f1 hrt
      obtain ⟨wf, hwf⟩ : ∃ y, y = wr.alloc (.cells #[.string nm, .int .u32 rt] 45) := ⟨_, rfl⟩
      have Bf := Lib.hid (show Blk wf wr.heap.size 45 #[.string nm, .int .u32 rt] by rw [hwf]; exact Blk.new _ _ _)
      have hbf : Below wr.heap.size wr wf := by rw [hwf]; exact (Below.refl _ _).alloc (Nat.le_refl _) _
      have HC := Lib.hid (IH.out (depth + 1) (by have := HD.out; omega) rt M V' (pre ++ xs.map (fun p => (p, (0 : Int)))) U' wf hrt (forksT_in (fun n L M h he => trav_in h he) HL4.out (by rw [HFk.out])) (HVk.out.below hbf) HDk.out (H.sJ _ _ _ _ HJk.out (KeepsU.of_below hbf))
       (by have h1 := HX.out; rw [HT4.out] at h1; have h2 := pre_trans (forksT_pre HFk.out hx) h1; rwa [← List.append_assoc] at h2))
      have HFf := Lib.hid (HFr.out.trans (Far.of_below (bv := bv) (bm := bm) (V := V') (U := U') hbf))
      have HXx := Lib.hid hx
      rw [show ((depth + 1 : Nat) : Int) = (depth : Int) + 1 by omega] at HC
      clear hbf hx hfk hb2 hab hab2 hrt HJk HVk HDk HFr
      gi_upto_region 9 with fail
      rw [← hwf]
      clear hwf f0 f1
      have f1 := Bf.out.cell 1
      simp at f1
      gi_wp2
      refine ⟨trivial, ?_⟩
      refine (callsIn_wide.2 HC.out).mono ?_
      rintro e w5 ⟨V5, U5, hf5, hq⟩
      have F5 := Lib.hid (HFf.out.trans hf5)
      clear hf5 HFf HC f1 Bf
      rcases hq with ⟨M5, hm5, rfl, hv5, hd5, hj5⟩ | ⟨rfl, hn5, hj5⟩ | ⟨rfl, q, hq, hj5⟩
      ·have HF5 := Lib.hid (forksT_next HFk.out HXx.out hm5)
       have HV5 := Lib.hid hv5
       have HD5 := Lib.hid hd5
       have HJ5 := Lib.hid (show J (pre ++ (xs ++ (trav sz img d rt M).1).map (fun p => (p, (0 : Int)))) U5 w5 by
        have h1 : stepsV (trav sz img d rt M) = (trav sz img d rt M).1.map (fun p => (p, (0 : Int))) := by unfold stepsV; rw [hm5]; simp
        rw [h1] at hj5
        rw [List.map_append, ← List.append_assoc]
        exact hj5)
       clear hm5 hv5 hd5 hj5
       gi_wp2
       go_roundw
       case rel =>
        first
         | exact ⟨k + 1, M5, V5, U5, _, by omega, by go_num, HF5, HV5, HD5, HJ5, F5⟩
         | ((repeat apply Exists.intro); exact ⟨⟨k + 1, M5, V5, U5, _, by omega, by go_num, HF5, HV5, HD5, HJ5, F5⟩, rfl⟩)
       case measure => simp [RowKit.intOf]; omega
      ·have HP := Lib.hid (show TravPost bv bm sz img J Jx pre V U w (trav sz img (d + 1) n L) (.returned (.bool false)) w5 from by
        have h1 := forksT_none HFk.out HXx.out hn5
        refine ⟨V5, U5, F3.out.trans F5.out, .inr (.inl ⟨rfl, by rw [HT4.out, h1], ?_⟩)⟩
        rw [HT4.out, h1, stepsV_none]
        have h2 : stepsV (trav sz img d rt M) = (trav sz img d rt M).1.map (fun p => (p, (0 : Int))) ++ [(Pr.zero, 4)] := by unfold stepsV; rw [hn5]; simp
        rw [h2] at hj5
        rw [List.map_append]
        simpa [List.append_assoc] using hj5)
       clear hn5 hj5
       gi_wp2
       go_ret
       exact HP.out
      ·have HP := Lib.hid (show TravPost bv bm sz img J Jx pre V U w (trav sz img (d + 1) n L) (.returned (.bool false)) w5 from by
        refine ⟨V5, U5, F3.out.trans F5.out, .inr (.inr ⟨rfl, xs.map (fun p => (p, (0 : Int))) ++ q, ?_, by rwa [← List.append_assoc]⟩)⟩
        rw [HT4.out]
        obtain ⟨z, hz⟩ := hq
        exact List.IsPrefix.trans ⟨z, by rw [List.append_assoc, hz]⟩ (forksT_pre HFk.out HXx.out))
       clear hq hj5
       gi_wp2
       go_ret
       exact HP.out
     ·have hkn : k = n1 := by omega
      subst hkn
      have HP := Lib.hid (show TravPost bv bm sz img J Jx pre V U w (trav sz img (d + 1) n L) (.returned (.bool true)) wr from by
       have h1 := HFk.out
       rw [List.take_of_length_le (by have := HNl.out; omega)] at h1
       refine ⟨V', U', F3.out.trans HFr.out, .inl ⟨M, by rw [HT4.out, h1], rfl, HVk.out, HDk.out, ?_⟩⟩
       rw [HT4.out, h1, stepsV_some]
       exact HJk.out)
      have PR := Lib.hid (HFr.out.blk PN.out (HA3.out gP HgP.out).1 (HA3.out gP HgP.out).2)
      have r2 := PR.out.cell 2
      simp at r2
      gi_upto_region 13 with fail
      gi_loopw [62] (fun v w' => v = .int .i64 0 ∧ w' = wr) (fun _ _ => 0)
      case atStart => exact ⟨rfl, rfl⟩
      case round =>
       obtain ⟨rfl, rfl⟩ := hrel
       gi_wp2
       go_ret
       exact HP.out
   | lf l =>
    obtain ⟨rfl, rfl, hrn, hnc, hcm⟩ := hni
    have hnl : l.length = n2 := it_len hrn.1
    have RF := Lib.hid hrn.1
    have HA := Lib.hid (fun ad (e : A2 = some ad) => HA3.out ad.block (hrn.2 ad e))
    have hn9 : n2 ≤ 100000 := by rw [← hnl]; exact item_size HO.out.symm
    have HNl := Lib.hid hnl
    have HL4 := Lib.hid (HL3.out (by rw [← HO.out]; simp))
    have HT4 := Lib.hid (show trav sz img (d + 1) n L = itemsT sz img l (L ++ [n]) from HTr.out)
    obtain ⟨hzi, hii⟩ := zero_of_info infoItz
    have HII := Lib.hid hii
    have HDc := Lib.hid HDj3.out
    clear hrn hnc hcm hnl hii HTr HL3
    have HF0 := Lib.hid (Far.refl bv bm V1 U wc)
    have HJ0 := Lib.hid (show J (pre ++ ([] : List Pr).map (fun p => (p, (0 : Int)))) U wc by simpa using J3.out)
    gi_upto_region 7 with fail
    gi_loopw [46] (fun v w' => v = .int .i64 0 ∧ wc = w') (fun _ _ => 0)
    case atStart => exact ⟨rfl, rfl⟩
    case round =>
    obtain ⟨rfl, hw'⟩ := hrel
    subst hw'
    gi_upto_region 13 with fail
    clear p0 p1 p2
    gi_loopw [62] (fun v wr => ∃ (k : Nat) (M : List Nat) (V' : Value) (U' : Nat → Prop) (xs : List Pr), k ≤ n2 ∧ v = .int .i64 k ∧ Hid (itemsT sz img (l.take k) (L ++ [n]) = (xs, some M)) ∧ Hid (Vis wr bv bm sz img M V') ∧ Hid (∀ k, FV bv bm V' k → ¬ U' k) ∧ Hid (J (pre ++ xs.map (fun p => (p, (0 : Int)))) U' wr) ∧ Hid (Far bv bm V1 U wc V' U' wr)) (fun v _ => n2 - (RowKit.intOf v).toNat)
    case atStart => exact ⟨0, L ++ [n], V1, U, [], Nat.zero_le _, rfl, Lib.hid rfl, V3, HDc, HJ0, HF0⟩
    case round =>
     clear HJ0 HF0
     obtain ⟨k, M, V', U', xs, hk, rfl, HIk, HVk, HDk, HJk, HFr⟩ := hrel
     by_cases hlt : k < n2
     ·obtain ⟨ad, x, rfl, hab, hab2, hx, hfk⟩ := it_at RF.out hlt
      have hin := item_num HO.out.symm hx
      have hb2 := HA.out ad rfl
      have hbb := block_add ad (k * 5)
      have hnb : ¬ (FV bv bm V1 (ad.add (k * 5)).block ∨ U (ad.add (k * 5)).block) := fun h => by rw [hbb] at h; exact h.elim hb2.1 hb2.2
      have f0 := (HFr.out.kept.cell (p := ad.add (k * 5)) hab2 hnb).trans hfk.1
      have f1 := (HFr.out.kept.cell (p := ⟨(ad.add (k * 5)).block, (ad.add (k * 5)).off + 1, none⟩) hab2 hnb).trans hfk.2.1
      have f2 := (HFr.out.kept.cell (p := ⟨(ad.add (k * 5)).block, (ad.add (k * 5)).off + 2, none⟩) hab2 hnb).trans hfk.2.2.1
      have f3 := (HFr.out.kept.cell (p := ⟨(ad.add (k * 5)).block, (ad.add (k * 5)).off + 3, none⟩) hab2 hnb).trans hfk.2.2.2.1
      have f4 := (HFr.out.kept.cell (p := ⟨(ad.add (k * 5)).block, (ad.add (k * 5)).off + 4, none⟩) hab2 hnb).trans hfk.2.2.2.2
      obtain ⟨ky, vl, ov, ln, hd⟩ := x
      dsimp only at f0 f1 f2 f3 f4 hin
      obtain ⟨wf, hwf⟩ : ∃ y, y = wr.alloc (.cells #[.string ky, .string vl, .bool ov, .int .i64 ln, .int .u32 hd] 76) := ⟨_, rfl⟩
      have Bf := Lib.hid (show Blk wf wr.heap.size 76 #[.string ky, .string vl, .bool ov, .int .i64 ln, .int .u32 hd] by rw [hwf]; exact Blk.new _ _ _)
      have hbf : Below wr.heap.size wr wf := by rw [hwf]; exact (Below.refl _ _).alloc (Nat.le_refl _) _
      have HFf := Lib.hid (HFr.out.trans (Far.of_below (bv := bv) (bm := bm) (V := V') (U := U') hbf))
      have HVf := Lib.hid (HVk.out.below hbf)
      have HJf := Lib.hid (H.sJ _ _ _ _ HJk.out (KeepsU.of_below hbf))
      have HXx := Lib.hid hx
      have HgI := Lib.hid (show ¬ FV bv bm V' wr.heap.size ∧ ¬ U' wr.heap.size from ⟨fun h => Nat.lt_irrefl _ (HVk.out.ltF _ h), fun h => Nat.lt_irrefl _ (H.lJ _ _ _ HJk.out _ h)⟩)
      have hval := fun w => value_any sz img ⟨ky, vl, ov, ln, hd⟩ w (by have := HSz.out; omega) hin.1 hin.2
      dsimp only at hval
      have HVal := Lib.hid hval
      clear hval
      have HIn := Lib.hid (show InL img M from itemsT_in HL4.out (by rw [HIk.out]))
      clear hbf hx hfk hb2 hbb hnb hab hab2 hin HJk HVk HFr
      gi_upto_region 15 with fail
      rw [← hwf]
      clear hwf f0 f1 f2 f3 f4
      obtain ⟨gI, hgI⟩ : ∃ g, g = wr.heap.size := ⟨_, rfl⟩
      rw [← hgI] at Bf HgI ⊢
      clear hgI
      obtain ⟨o, ho⟩ : ∃ o, o = valN sz img ⟨ky, vl, ov, ln, hd⟩ := ⟨_, rfl⟩
      rw [← ho] at HVal
      have HVn := Lib.hid ho.symm
      clear ho
      gi_cut [14, 15, 16] from 98 (fun p14 p15 p16 wx => ValAt sz o wf p14 p15 p16 wx)
      case first =>
       have v0 := HVf.out.blk.cell 0
       have v1 := HVf.out.blk.cell 1
       have i0 := Bf.out.cell 0
       have i1 := Bf.out.cell 1
       have i2 := Bf.out.cell 2
       have i3 := Bf.out.cell 3
       have i4 := Bf.out.cell 4
       simp at v0 v1 i0 i1 i2 i3 i4
       refine wpIn_wide.2 ?_
       refine wp_region_held_drew (S := (fun w' => w'.cell? ⟨bv, 0, none⟩ = some (.int .i64 sz) ∧ w'.cell? ⟨bv, 1, none⟩ = some (.string img) ∧ w'.cell? ⟨gI, 0, none⟩ = some (.string ky) ∧ w'.cell? ⟨gI, 1, none⟩ = some (.string vl) ∧ w'.cell? ⟨gI, 2, none⟩ = some (.bool ov) ∧ w'.cell? ⟨gI, 3, none⟩ = some (.int .i64 ln) ∧ w'.cell? ⟨gI, 4, none⟩ = some (.int .u32 hd))) (by kernel_rfl) (show _ ∧ _ from ⟨HVf.out.blk.drew.cell 0, HVf.out.blk.drew.cell 1, Bf.out.drew.cell 0, Bf.out.drew.cell 1, Bf.out.drew.cell 2, Bf.out.drew.cell 3, Bf.out.drew.cell 4⟩) (fun _ => ?_)
       refine tkA (i := 0) ?_
       try simp only [tkP]
       refine tkA (i := 1) ?_
       try simp only [tkP]
       refine tkA (i := 2) ?_
       try simp only [tkP]
       refine tkA (i := 3) ?_
       try simp only [tkP]
       refine tkA (i := 4) ?_
       try simp only [tkP]
       refine tkA (i := 5) ?_
       try simp only [tkP]
       refine tkA (i := 6) ?_
       try simp only [tkP]
       refine tkA (i := 7) ?_
       try simp only [tkP]
       refine tkA (i := 8) ?_
       try simp only [tkP]
       refine wpAnyH_ready (rs := [9]) (by kernel_rfl) (by simp) ?_
       refine tkC (fun K hK => ?_)
       go_simp
       refine (HVal.out _).mono ?_
       rintro e w4 ⟨Ac, nc, cc, rfl, hrc, hbc⟩
       refine hK.out _ _ (show _ ∧ _ from ⟨(HVf.out.blk.drew.below hbc HVf.out.blk.lt).cell 0, (HVf.out.blk.drew.below hbc HVf.out.blk.lt).cell 1, (Bf.out.drew.below hbc Bf.out.lt).cell 0, (Bf.out.drew.below hbc Bf.out.lt).cell 1, (Bf.out.drew.below hbc Bf.out.lt).cell 2, (Bf.out.drew.below hbc Bf.out.lt).cell 3, (Bf.out.drew.below hbc Bf.out.lt).cell 4⟩) (fun hHeld => ?_)
       clear hK K
       try simp only [tkP]
       refine tkA (i := 10) ?_
       try simp only [tkP]
       refine tkA (i := 11) ?_
       try simp only [tkP]
       refine tkA (i := 12) ?_
       try simp only [tkP]
       refine tkA (i := 13) ?_
       try simp only [tkP]
       refine tkA (i := 14) ?_
       try simp only [tkP]
       refine tkA (i := 15) ?_
       try simp only [tkP]
       refine tkA (i := 16) ?_
       try simp only [tkP]
       refine wpAnyH_done (by kernel_rfl) ?_ _
       go_wp2_with fail
       gi_meet
       case rel => exact ⟨Ac, nc, cc, rfl, rfl, rfl, hrc, (Below.refl _ wf).drew.trans hbc⟩
      case rest =>
      obtain ⟨Ac, nc, cc, rfl, rfl, rfl, hrc, hbc⟩ := hcut
      have F4 := Lib.hid (HFf.out.trans (Far.of_below (bv := bv) (bm := bm) (V := V') (U := U') hbc))
      have HV4 := Lib.hid (HVf.out.below hbc)
      have HJ4 := Lib.hid (H.sJ _ _ _ _ HJf.out (KeepsU.of_below hbc))
      have HRc := Lib.hid hrc
      have HAc := Lib.hid (show ∀ ad, Ac = some ad → ¬ FV bv bm V' ad.block from fun ad e h => by have h1 := hrc.2 ad e; have h2 := HVf.out.ltF _ h; omega)
      have B4 := Lib.hid (Bf.out.below hbc Bf.out.lt)
      clear hrc hbc HFf HVf HJf Bf HVal
      rcases o with _ | ⟨v, ps⟩
      ·have hwf : Fence.wide.fn 106 = True := rfl
       have hve : valE sz none ≠ 0 := by unfold valE rdErr; split <;> (try split) <;> simp_all
       have hvb : (valE sz none != 0) = true := by simpa using hve
       have HFa := Lib.hid (fail_any H 8 _ U' wc HJ4.out (by
        have h := HX.out
        rw [HT4.out, itemsT_bad HIk.out HXx.out HVn.out, stepsV_none] at h
        rwa [← List.append_assoc] at h))
       clear hve
       gi_wp2
       refine ⟨trivial, ?_⟩
       refine HFa.out.mono ?_
       rintro e w6 h
       have HP := Lib.hid (TravPost.of_fail (sz := sz) (img := img) (t := trav sz img (d + 1) n L) (F3.out.trans F4.out) (by rw [HT4.out]; exact itemsT_bad HIk.out HXx.out HVn.out) h)
       obtain ⟨rfl, _⟩ := h
       gi_wp2
       go_ret
       exact HP.out
      ·have hps := valN_len HVn.out
       have hnc : ps.length = nc := by have := HRc.out.1.1; simpa [ucells, rdPs] using this
       have HVi := Lib.hid (visit_any bv bm sz img M ps V' Ac nc cc wc HV4.out HRc.out.1 HAc.out hps.2 (by have h1 := HIn.out.len; have h2 := HSz.out; omega))
       clear hps hnc HRc HAc
       rw [show valE sz (some (v, ps)) = 0 from rfl, show rdStr (some (v, ps)) = v from rfl]
       gi_wp2
       refine ⟨trivial, ?_⟩
       refine (callsIn_wide.2 HVi.out).mono ?_
       rintro e w6 ⟨hk6, hp⟩
       clear HVi
       rcases hw : visitL M ps with _ | N
       ·rw [hw] at hp
        subst hp
        have F6 := Lib.hid (F4.out.trans (Far.of_visit (U := U') (V1 := V') hk6 (fun g h => .inl h)))
        have HFa := Lib.hid (fail_any H 8 _ U' w6 (stab_far H.sJ HJ4.out hk6 HDk.out) (by
         have h := HX.out
         rw [HT4.out, itemsT_twice HIk.out HXx.out HVn.out hw, stepsV_none] at h
         rwa [← List.append_assoc] at h))
        have HW := Lib.hid hw
        clear hk6 hw
        gi_wp2
        refine ⟨trivial, ?_⟩
        refine HFa.out.mono ?_
        rintro e w7 h
        have HP := Lib.hid (TravPost.of_fail (sz := sz) (img := img) (t := trav sz img (d + 1) n L) (F3.out.trans F6.out) (by rw [HT4.out]; exact itemsT_twice HIk.out HXx.out HVn.out HW.out) h)
        obtain ⟨rfl, _⟩ := h
        gi_wp2
        go_ret
        exact HP.out
       ·rw [hw] at hp
        obtain ⟨rfl, V6, hv6, hg6⟩ := hp
        have F6 := Lib.hid (F4.out.trans (Far.of_visit (U := U') hk6 hg6))
        have HV6 := Lib.hid hv6
        have HD6 := Lib.hid (show ∀ k, FV bv bm V6 k → ¬ U' k from fun k hf hu => by
         have h1 := H.lJ _ _ _ HJ4.out k hu
         rcases hf with h2 | h2 | h2
         ·exact HDk.out k (.inl h2) hu
         ·exact HDk.out k (.inr (.inl h2)) hu
         ·rcases hg6 k h2 with h3 | h3
          ·exact HDk.out k (.inr (.inr h3)) hu
          ·omega)
        have HW := Lib.hid hw
        have B6 := Lib.hid (hk6.blk B4.out HgI.out.1)
        have HY := H.tell _ (⟨ky, v⟩, 0) U' w6 (stab_far H.sJ HJ4.out hk6 HDk.out) (by
         have h := HX.out
         rw [HT4.out] at h
         have h2 := pre_trans (itemsT_pre HIk.out HXx.out HVn.out hw) h
         rwa [← List.append_assoc] at h2)
        simp only [encP] at HY
        have i0 := B6.out.cell 0
        simp at i0
        clear hk6 hv6 hg6 hw HV4 HJ4 B4 F4
        rcases HY with ⟨l', fn, tmps, assign, body, rfl, hy, hR⟩ | ⟨g, lb, rfl, eg, hR⟩
        ·gi_wp2
         refine (hR _).mono ?_
         clear hR hy i0
         rintro e w7 h
         rcases h with ⟨rfl, h⟩ | ⟨rfl, h⟩
         ·have hq := round_vis h HV6.out HD6.out
          obtain ⟨U7, hf7, hj7, hv7, hd7⟩ := hq
          have F7 := Lib.hid (F6.out.trans hf7)
          have HV7 := Lib.hid hv7
          have HD7 := Lib.hid hd7
          have HJ7 := Lib.hid (show J (pre ++ (xs ++ [(⟨ky, v⟩ : Pr)]).map (fun p => (p, (0 : Int)))) U7 w7 by rw [List.map_append, ← List.append_assoc]; exact hj7)
          have HF7 := Lib.hid (itemsT_next HIk.out HXx.out HVn.out HW.out)
          clear h hf7 hj7 hv7 hd7
          gi_wp2
          go_roundw
          case rel =>
           first
            | exact ⟨k + 1, N, V6, U7, _, by omega, by go_num, HF7, HV7, HD7, HJ7, F7⟩
            | ((repeat apply Exists.intro); exact ⟨⟨k + 1, N, V6, U7, _, by omega, by go_num, HF7, HV7, HD7, HJ7, F7⟩, rfl⟩)
          case measure => simp [RowKit.intOf]; omega
         ·obtain ⟨U7, hf7, hj7⟩ := Far.of_round (bv := bv) (bm := bm) (V := V6) h
          have HP := Lib.hid (show TravPost bv bm sz img J Jx pre V U w (trav sz img (d + 1) n L) (.returned (.bool false)) w7 from by
           refine ⟨V6, U7, F3.out.trans (F6.out.trans hf7), .inr (.inr ⟨rfl, xs.map (fun p => (p, (0 : Int))) ++ [(⟨ky, v⟩, 0)], ?_, by rwa [← List.append_assoc]⟩)⟩
           rw [HT4.out]
           exact itemsT_pre HIk.out HXx.out HVn.out HW.out)
          clear h hf7 hj7
          gi_wp2
          go_ret
          exact HP.out
        ·gi_wp2
         refine ⟨trivial, ?_⟩
         refine (callsIn_wide.2 hR).mono ?_
         clear hR eg i0
         rintro e w7 h
         rcases h with ⟨rfl, h⟩ | ⟨rfl, h⟩
         ·have hq := round_vis h HV6.out HD6.out
          obtain ⟨U7, hf7, hj7, hv7, hd7⟩ := hq
          have F7 := Lib.hid (F6.out.trans hf7)
          have HV7 := Lib.hid hv7
          have HD7 := Lib.hid hd7
          have HJ7 := Lib.hid (show J (pre ++ (xs ++ [(⟨ky, v⟩ : Pr)]).map (fun p => (p, (0 : Int)))) U7 w7 by rw [List.map_append, ← List.append_assoc]; exact hj7)
          have HF7 := Lib.hid (itemsT_next HIk.out HXx.out HVn.out HW.out)
          clear h hf7 hj7 hv7 hd7
          gi_wp2
          go_roundw
          case rel =>
           first
            | exact ⟨k + 1, N, V6, U7, _, by omega, by go_num, HF7, HV7, HD7, HJ7, F7⟩
            | ((repeat apply Exists.intro); exact ⟨⟨k + 1, N, V6, U7, _, by omega, by go_num, HF7, HV7, HD7, HJ7, F7⟩, rfl⟩)
          case measure => simp [RowKit.intOf]; omega
         ·obtain ⟨U7, hf7, hj7⟩ := Far.of_round (bv := bv) (bm := bm) (V := V6) h
          have HP := Lib.hid (show TravPost bv bm sz img J Jx pre V U w (trav sz img (d + 1) n L) (.returned (.bool false)) w7 from by
           refine ⟨V6, U7, F3.out.trans (F6.out.trans hf7), .inr (.inr ⟨rfl, xs.map (fun p => (p, (0 : Int))) ++ [(⟨ky, v⟩, 0)], ?_, by rwa [← List.append_assoc]⟩)⟩
           rw [HT4.out]
           exact itemsT_pre HIk.out HXx.out HVn.out HW.out)
          clear h hf7 hj7
          gi_wp2
          go_ret
          exact HP.out
     ·have hkn : k = n2 := by omega
      subst hkn
      have HP := Lib.hid (show TravPost bv bm sz img J Jx pre V U w (trav sz img (d + 1) n L) (.returned (.bool true)) wr from by
       have h1 := HIk.out
       rw [List.take_of_length_le (by have := HNl.out; omega)] at h1
       refine ⟨V', U', F3.out.trans HFr.out, .inl ⟨M, by rw [HT4.out, h1], rfl, HVk.out, HDk.out, ?_⟩⟩
       rw [HT4.out, h1, stepsV_some]
       exact HJk.out)
      gi_wp2
      go_ret
      exact HP.out
end Go.Proofs.YtmmjckokjmpfpaaGreat

