/-
  Texts that the main proof rests on, put together: CuTree, CuAll, CuFrom. No statement is proved here.
-/
import Derived.Test.YtmmjckokjmpfpaaGreatJ39
set_option linter.unusedVariables false
set_option linter.unusedSimpArgs false
namespace Go.Proofs.YtmmjckokjmpfpaaGreat
open Go.RowKit Go.Shelf
attribute [local go_sem] Oper.semAt_some
attribute [local go_sem ↓] Go.wp_at_zero Go.wp_at_succ

def treeS (size : Int) (s : ByteArray) (root : Nat) : List (Pr × Int) := stepsT (treeV size s root).1 (treeE size s root)
theorem treeS_bad {size : Int} {s : ByteArray} {root : Nat} (h : goodSize size = false) : treeS size s root = [(Pr.zero, 2)] := by
 unfold treeS treeV treeE stepsT
 rw [h]
 simp
theorem treeS_nil {size : Int} {s : ByteArray} (h : goodSize size = true) : treeS size s 0 = [] := by
 unfold treeS treeE stepsT treeV
 rw [h]
 simp
theorem treeS_is {size : Int} {s : ByteArray} {root : Nat} (h : goodSize size = true) (hr : root ≠ 0) : treeS size s root = stepsV (trav size s 16 root []) := by
 unfold treeS treeE stepsT stepsV treeV
 rw [h]
 simp only [if_true, if_neg hr]
 rcases (trav size s 16 root []).2 with _ | M
 ·simp
 ·simp
def TreePost (bv bm : Nat) (sz : Int) (img : ByteArray) (root : Nat) (J Jx : List (Pr × Int) → (Nat → Prop) → World → Prop) (V : Value) (U : Nat → Prop) (w : World) (e : Ending) (w' : World) : Prop :=
 (∃ v, e = .returned v) ∧ ∃ (V' : Value) (U' : Nat → Prop), Far bv bm V U w V' U' w' ∧
  ((J (treeS sz img root) U' w' ∧ ∀ M, (treeV sz img root).2 = some M → Vis w' bv bm sz img M V')
  ∨ (∃ q, q <+: treeS sz img root ∧ Jx q U' w'))
set_option maxRecDepth 100000 in
set_option maxHeartbeats 12800000 in
theorem tree_any {J Jx : List (Pr × Int) → (Nat → Prop) → World → Prop} {yv : Value} (sz : Int) (img : ByteArray) (root : Nat) (H : Hears (treeS sz img root) J Jx yv) (bv bm : Nat) (hi : img.size ≤ 400000) (hr : root < 4294967296) (V : Value) (U : Nat → Prop) (w : World) (hv : Vis w bv bm sz img [] V) (hd : ∀ k, FV bv bm V k → ¬ U k) (hj : J [] U w) :
  Calls Tryz.prog 43 #[.pointer (some ⟨bv, 0, none⟩), .int .u32 root, yv] w (TreePost bv bm sz img root J Jx V U w) := by
 have v0 := hv.blk.cell 0
 simp at v0
 rcases hg : goodSize sz with _ | _
 ·have HS := Lib.hid (treeS_bad (s := img) (root := root) hg)
  have HN := Lib.hid (show (treeV sz img root).2 = none by unfold treeV; rw [hg]; rfl)
  have HV := Lib.hid hv
  have HY := H.tell [] (Pr.zero, 2) U w hj (by rw [HS.out]; exact List.prefix_rfl)
  simp only [encP, Pr.zero] at HY
  have HG := Lib.hid (fun w => dgood_is sz false w hg)
  clear hv hd hj hg
  have hfin : ∀ (e : Ending) w', AfterU J Jx U w ([] ++ [(Pr.zero, 2)]) e w' → ∀ v, TreePost bv bm sz img root J Jx V U w (.returned v) w' := fun e w' h v => by
   refine ⟨⟨_, rfl⟩, ?_⟩
   rcases h with ⟨_, h⟩ | ⟨_, h⟩
   ·obtain ⟨U', hf, hj⟩ := Far.of_round (bv := bv) (bm := bm) (V := V) h
    exact ⟨V, U', hf, .inl ⟨by rw [HS.out]; exact hj, fun M hm => by rw [HN.out] at hm; cases hm⟩⟩
   ·obtain ⟨U', hf, hj⟩ := Far.of_round (bv := bv) (bm := bm) (V := V) h
    exact ⟨V, U', hf, .inr ⟨_, by rw [HS.out]; exact List.prefix_rfl, hj⟩⟩
  have HFin := Lib.hid hfin
  clear hfin
  have hmx : Tryz.prog.follows .mixedOrders = true := by kernel_rfl
  rcases HY with ⟨l', fn, tmps, assign, body, rfl, hy, hR⟩ | ⟨g, lb, rfl, eg, hR⟩
  ·refine (callsIn_wide (n := 9)).1 ?_
   refine callsIn_of_wp Tryz.func43 rfl trivial ?_ rfl
   simp only [Tryz.ntmps43, List.size_toArray, List.length_cons, List.length_nil, Nat.reduceAdd, Nat.reduceSub, Array.replicate_succ, Array.replicate_zero, List.push_toArray, List.append_toArray, List.nil_append, List.cons_append]
   gi_wp2_with (refine ⟨trivial, ?_⟩; gi_at_call 71; refine (callsIn_wide.2 (HG.out _)).mono ?_; rintro e w' ⟨rfl, rfl⟩)
   refine (hR _).mono ?_
   rintro e w7 h
   rcases h with ⟨rfl, h⟩ | ⟨rfl, h⟩
   ·have HP := Lib.hid (HFin.out _ _ (.inl ⟨rfl, h⟩))
    clear h
    gi_wp2
    refine bodyPost_ret (results_none rfl _ _ _) rfl ?_
    exact HP.out _
   ·have HP := Lib.hid (HFin.out _ _ (.inr ⟨rfl, h⟩))
    clear h
    gi_wp2
    refine bodyPost_ret (results_none rfl _ _ _) rfl ?_
    exact HP.out _
  ·refine (callsIn_wide (n := 9)).1 ?_
   refine callsIn_of_wp Tryz.func43 rfl trivial ?_ rfl
   simp only [Tryz.ntmps43, List.size_toArray, List.length_cons, List.length_nil, Nat.reduceAdd, Nat.reduceSub, Array.replicate_succ, Array.replicate_zero, List.push_toArray, List.append_toArray, List.nil_append, List.cons_append]
   gi_wp2_with (refine ⟨trivial, ?_⟩; gi_at_call 71; refine (callsIn_wide.2 (HG.out _)).mono ?_; rintro e w' ⟨rfl, rfl⟩)
   refine ⟨trivial, ?_⟩
   refine (callsIn_wide.2 hR).mono ?_
   rintro e w7 h
   rcases h with ⟨rfl, h⟩ | ⟨rfl, h⟩
   ·have HP := Lib.hid (HFin.out _ _ (.inl ⟨rfl, h⟩))
    clear h
    gi_wp2
    refine bodyPost_ret (results_none rfl _ _ _) rfl ?_
    exact HP.out _
   ·have HP := Lib.hid (HFin.out _ _ (.inr ⟨rfl, h⟩))
    clear h
    gi_wp2
    refine bodyPost_ret (results_none rfl _ _ _) rfl ?_
    exact HP.out _
 ·have HG := Lib.hid (fun w => dgood_is sz true w hg)
  by_cases h0 : root = 0
  ·subst h0
   have HP := Lib.hid (show ∀ v, TreePost bv bm sz img 0 J Jx V U w (.returned v) w from fun v => ⟨⟨_, rfl⟩, V, U, Far.refl _ _ _ _ _, .inl ⟨by rw [treeS_nil hg]; exact hj, fun M hm => by unfold treeV at hm; rw [hg] at hm; simp at hm; subst hm; exact hv⟩⟩)
   clear hv hd hj hg H
   refine (callsIn_wide (n := 9)).1 ?_
   refine callsIn_of_wp Tryz.func43 rfl trivial ?_ rfl
   simp only [Tryz.ntmps43, List.size_toArray, List.length_cons, List.length_nil, Nat.reduceAdd, Nat.reduceSub, Array.replicate_succ, Array.replicate_zero, List.push_toArray, List.append_toArray, List.nil_append, List.cons_append]
   gi_wp2_with (refine ⟨trivial, ?_⟩; gi_at_call 71; refine (callsIn_wide.2 (HG.out _)).mono ?_; rintro e w' ⟨rfl, rfl⟩)
   refine bodyPost_ret (results_none rfl _ _ _) rfl ?_
   exact HP.out _
  ·have HT := Lib.hid (traverse_any H sz img bv bm hi 16 1 rfl root [] V [] U w hr (InL.nil img) hv hd hj (by rw [treeS_is hg h0]; exact List.prefix_rfl))
   have HS := Lib.hid (treeS_is (s := img) hg h0)
   have HV := Lib.hid (show treeV sz img root = trav sz img 16 root [] by unfold treeV; rw [hg]; simp [h0])
   have h1 : ((root : Int) != 0) = true := by simp; omega
   have h2 : (root != 0) = true := by simp; omega
   clear hv hd hj hg H h0
   refine (callsIn_wide (n := 9)).1 ?_
   refine callsIn_of_wp Tryz.func43 rfl trivial ?_ rfl
   simp only [Tryz.ntmps43, List.size_toArray, List.length_cons, List.length_nil, Nat.reduceAdd, Nat.reduceSub, Array.replicate_succ, Array.replicate_zero, List.push_toArray, List.append_toArray, List.nil_append, List.cons_append]
   gi_wp2_with (refine ⟨trivial, ?_⟩; gi_at_call 71; refine (callsIn_wide.2 (HG.out _)).mono ?_; rintro e w' ⟨rfl, rfl⟩)
   refine ⟨trivial, ?_⟩
   refine (callsIn_wide.2 HT.out).mono ?_
   rintro e w7 ⟨V', U', hf, h⟩
   rcases h with ⟨M, hm, rfl, hv', hd', hj'⟩ | ⟨rfl, hn', hj'⟩ | ⟨rfl, q, hq, hj'⟩
   ·have HP := Lib.hid (show ∀ v, TreePost bv bm sz img root J Jx V U _ (.returned v) w7 from fun v => ⟨⟨_, rfl⟩, V', U', hf, .inl ⟨by rw [HS.out]; exact hj', fun M' hm' => by rw [HV.out, hm] at hm'; injection hm' with hm'; subst hm'; exact hv'⟩⟩)
    clear hf hm hv' hd' hj'
    gi_wp2
    refine bodyPost_ret (results_none rfl _ _ _) rfl ?_
    exact HP.out _
   ·have HP := Lib.hid (show ∀ v, TreePost bv bm sz img root J Jx V U _ (.returned v) w7 from fun v => ⟨⟨_, rfl⟩, V', U', hf, .inl ⟨by rw [HS.out]; exact hj', fun M' hm' => by rw [HV.out, hn'] at hm'; cases hm'⟩⟩)
    clear hf hn' hj'
    gi_wp2
    refine bodyPost_ret (results_none rfl _ _ _) rfl ?_
    exact HP.out _
   ·have HP := Lib.hid (show ∀ v, TreePost bv bm sz img root J Jx V U _ (.returned v) w7 from fun v => ⟨⟨_, rfl⟩, V', U', hf, .inr ⟨q, by rw [HS.out]; exact hq, hj'⟩⟩)
    clear hf hq hj'
    gi_wp2
    refine bodyPost_ret (results_none rfl _ _ _) rfl ?_
    exact HP.out _
end Go.Proofs.YtmmjckokjmpfpaaGreat

namespace Go.Proofs.YtmmjckokjmpfpaaGreat
open Go.RowKit Go.Shelf
attribute [local go_sem] Oper.semAt_some
attribute [local go_sem ↓] Go.wp_at_zero Go.wp_at_succ

theorem visitor_any (sz : Int) (img : ByteArray) (w : World) : Calls Tryz.prog 42 #[.int .i64 sz, .string img] w fun e w' => e = .returned (.pointer (some ⟨w.heap.size + 1, 0, none⟩)) ∧ Below w.heap.size w w' ∧ Vis w' (w.heap.size + 1) w.heap.size sz img [] (.slice none 0 0) ∧ w'.heap.size = w.heap.size + 2 := by
 have hmm := @run_makeMap Tryz.prog
 have HP := Lib.hid (show Below w.heap.size w ((w.alloc (.map #[] 0)).alloc (.cells #[.int .i64 sz, .string img, .map (some w.heap.size), .slice none 0 0] 93)) ∧ Vis ((w.alloc (.map #[] 0)).alloc (.cells #[.int .i64 sz, .string img, .map (some w.heap.size), .slice none 0 0] 93)) (w.heap.size + 1) w.heap.size sz img [] (.slice none 0 0) ∧ ((w.alloc (.map #[] 0)).alloc (.cells #[.int .i64 sz, .string img, .map (some w.heap.size), .slice none 0 0] 93)).heap.size = w.heap.size + 2 from by
  refine ⟨((Below.refl _ _).alloc (Nat.le_refl _) _).alloc (by simp) _, ⟨?_, ?_, World.ownsRow_nil _ _ _ _⟩, by simp⟩
  ·have := Blk.new (w.alloc (.map #[] 0)) 93 #[.int .i64 sz, .string img, .map (some w.heap.size), .slice none 0 0]
   simpa using this
  ·have := (World.ownsMap_made w Tryz.prog 23 (unitElem (H := Unit))).alloc (.cells #[.int .i64 sz, .string img, .map (some w.heap.size), .slice none 0 0] 93)
   exact this)
 go_enter Tryz.func42, Tryz.ntmps42
 go_wp2_with fail
 go_ret
 exact ⟨rfl, HP.out⟩
set_option maxRecDepth 100000 in
set_option maxHeartbeats 12800000 in
theorem all1_any {J Jx : List (Pr × Int) → (Nat → Prop) → World → Prop} {yv : Value} (sz : Int) (img : ByteArray) (root : Nat) (H : Hears (treeS sz img root) J Jx yv) (b1 b2 b3 : Nat) (hi : img.size ≤ 400000) (hr : root < 4294967296) (U : Nat → Prop) (w : World)
  (c1 : Boxed w b1 3 (.int .i64 sz)) (c2 : Boxed w b2 9 (.string img)) (c3 : Boxed w b3 23 (.int .u32 root)) (n1 : ¬ U b1) (n2 : ¬ U b2) (n3 : ¬ U b3) (hj : J [] U w) :
  Calls Tryz.prog 79 #[yv, .pointer (some ⟨b1, 0, none⟩), .pointer (some ⟨b2, 0, none⟩), .pointer (some ⟨b3, 0, none⟩)] w fun e w' => (∃ v, e = .returned v) ∧ ∃ U', (J (treeS sz img root) U' w' ∨ ∃ pre, pre <+: treeS sz img root ∧ Jx pre U' w') := by
 have C1 := Lib.hid c1
 have C2 := Lib.hid c2
 have C3 := Lib.hid c3
 have HJ := Lib.hid hj
 have HI := Lib.hid hi
 have HR := Lib.hid hr
 clear c1 c2 c3 hj hi hr
 go_enter Tryz.func79, Tryz.ntmps79
 go_upto_region 0 with fail
 refine wp_region_held_drew (S := (fun w' => w'.cell? ⟨b1, 0, none⟩ = some (.int .i64 sz) ∧ w'.cell? ⟨b2, 0, none⟩ = some (.string img) ∧ w'.cell? ⟨b3, 0, none⟩ = some (.int .u32 root))) (by kernel_rfl) (show _ ∧ _ from ⟨C1.out.cell, C2.out.cell, C3.out.cell⟩) (fun _ => ?_)
 refine tkA (i := 0) ?_
 try simp only [tkP]
 refine tkA (i := 1) ?_
 try simp only [tkP]
 refine tkA (i := 3) ?_
 try simp only [tkP]
 refine tkA (i := 4) ?_
 try simp only [tkP]
 refine wpAnyH_ready (rs := [2]) (by kernel_rfl) (by simp) ?_
 refine tkC (fun K hK => ?_)
 go_simp
 refine (visitor_any sz img _).mono ?_
 rintro e w1 ⟨rfl, hb1, hv1, hs1⟩
 have HB1 := Lib.hid hb1
 have HV1 := Lib.hid hv1
 have HJ1 := Lib.hid (H.sJ _ _ _ _ HJ.out (KeepsU.of_below ((Below.refl _ w).drew.trans hb1)))
 refine hK.out _ _ (show _ ∧ _ from ⟨(hb1.cell (p := ⟨b1, 0, none⟩) C1.out.lt).trans C1.out.cell, (hb1.cell (p := ⟨b2, 0, none⟩) C2.out.lt).trans C2.out.cell, (hb1.cell (p := ⟨b3, 0, none⟩) C3.out.lt).trans C3.out.cell⟩) (fun hHeld => ?_)
 clear hK K hb1 hv1 hs1
 try simp only [tkP]
 refine wpAnyH_ready (rs := [5]) (by kernel_rfl) (by simp) ?_
 refine tkC (fun K hK => ?_)
 go_simp
 refine (tree_any sz img root H (w.drew.heap.size + 1) w.drew.heap.size HI.out HR.out _ U w1 HV1.out (fun k hk hu => by have h1 : k < w.heap.size := H.lJ _ _ _ HJ.out k hu; rcases hk with h | h | h <;> simp [Value.ownBlock] at h <;> omega) HJ1.out).mono ?_
 rintro e w2 ⟨⟨v, rfl⟩, V2, U2, hf2, hq⟩
 have HQ := Lib.hid (show ∃ U', (J (treeS sz img root) U' w2 ∨ ∃ pre, pre <+: treeS sz img root ∧ Jx pre U' w2) from ⟨U2, hq.elim (fun h => .inl h.1) .inr⟩)
 have hnv : ∀ b, b < w.heap.size → ¬ U b → ∀ v, w1.cell? ⟨b, 0, none⟩ = some v → w2.cell? ⟨b, 0, none⟩ = some v := fun b hb hn v hc => (hf2.kept.cell (p := ⟨b, 0, none⟩) (Nat.lt_of_lt_of_le hb HB1.out.size) (fun h => h.elim (fun h => by have hz : w.drew.heap.size = w.heap.size := rfl; rcases h with h | h | h <;> simp [Value.ownBlock] at h <;> omega) hn)).trans hc
 have h1 := hnv b1 C1.out.lt n1 _ hHeld.1
 have h2 := hnv b2 C2.out.lt n2 _ hHeld.2.1
 have h3 := hnv b3 C3.out.lt n3 _ hHeld.2.2
 refine hK.out _ _ (show _ ∧ _ from ⟨h1, h2, h3⟩) (fun hHeld => ?_)
 clear h1 h2 h3 hnv
 clear hK K hf2 hq
 try simp only [tkP]
 refine wpAnyH_done (by kernel_rfl) ?_ _
 go_wp2_with fail
 go_end0
 exact ⟨⟨_, rfl⟩, HQ.out⟩
theorem allmake_any (sz : Int) (img : ByteArray) (root : Nat) (w : World) :
  Calls Tryz.prog 45 #[.int .i64 sz, .string img, .int .u32 root] w fun e w' => e = .returned (.func (.func 79) #[] #[.pointer (some ⟨w.heap.size, 0, none⟩), .pointer (some ⟨w.heap.size + 1, 0, none⟩), .pointer (some ⟨w.heap.size + 1 + 1, 0, none⟩)]) ∧
   w' = ((w.alloc (.cells #[.int .i64 sz] 3)).alloc (.cells #[.string img] 9)).alloc (.cells #[.int .u32 root] 23) := by
 have hmf : ∀ (fn : Fn) (first cap : Array Value) (w : World), (Instr.makeFunc fn first cap).run Tryz.prog w = .ok (.func fn first cap) w := fun _ _ _ _ => rfl
 go_enter Tryz.func45, Tryz.ntmps45
 go_wp2_with fail
 go_ret
 exact ⟨by simp [Nat.add_assoc], rfl⟩
theorem all_seq (sz : Int) (img : ByteArray) (root : Nat) (b1 b2 b3 : Nat) (hi : img.size ≤ 400000) (hr : root < 4294967296) (w : World)
  (c1 : Boxed w b1 3 (.int .i64 sz)) (c2 : Boxed w b2 9 (.string img)) (c3 : Boxed w b3 23 (.int .u32 root)) :
  SeqU Tryz.prog 79 #[.pointer (some ⟨b1, 0, none⟩), .pointer (some ⟨b2, 0, none⟩), .pointer (some ⟨b3, 0, none⟩)] encP (treeS sz img root) (fun k => k = b1 ∨ k = b2 ∨ k = b3) w := fun l n J Jx U0 W hW sJ sJx lJ lJx hM hY h0 =>
 callsIn_wide.2 (all1_any (yv := .func (.yield l) #[] #[]) sz img root ⟨sJ, sJx, lJ, lJx, fun pre x U W1 hj hx => YieldsTo.of_yield (hY 0 pre x U W1 hj hx)⟩ b1 b2 b3 hi hr U0 W ((hW.block b1 c1.lt).trans c1) ((hW.block b2 c2.lt).trans c2) ((hW.block b3 c3.lt).trans c3) (hM b1 (.inl rfl)) (hM b2 (.inr (.inl rfl))) (hM b3 (.inr (.inr rfl))) h0)
end Go.Proofs.YtmmjckokjmpfpaaGreat

namespace Go.Proofs.YtmmjckokjmpfpaaGreat
open Go.RowKit Go.Shelf
attribute [local go_sem] Oper.semAt_some

def keepK (key : ByteArray) (x : Pr × Int) : Bool := !(decide (x.2 = 0) && Op.bytesLess x.1.ky.toList key.toList)
def fromS (size : Int) (s : ByteArray) (root : Nat) (key : ByteArray) : List (Pr × Int) := (treeS size s root).filter (keepK key)
section
variable {J Jx : List (Pr × Int) → (Nat → Prop) → World → Prop}
def FromI (J : List (Pr × Int) → (Nat → Prop) → World → Prop) (key : ByteArray) (yv : Value) (b4 b5 : Nat) (pre : List (Pr × Int)) (U : Nat → Prop) (W : World) : Prop :=
 ∃ Uo : Nat → Prop, (∀ k, U k ↔ Uo k ∨ k = b4 ∨ k = b5) ∧ ¬ Uo b4 ∧ ¬ Uo b5 ∧ J (pre.filter (keepK key)) Uo W ∧ Boxed W b4 9 (.string key) ∧ Boxed W b5 90 yv
def FromX (Jx : List (Pr × Int) → (Nat → Prop) → World → Prop) (XS : List (Pr × Int)) (b4 b5 : Nat) (c : Code) (pre : List (Pr × Int)) (U : Nat → Prop) (W : World) : Prop :=
 c = .ret ∧ ∃ (Uo : Nat → Prop) (q : List (Pr × Int)), (∀ k, Uo k → U k) ∧ (∀ k, U k → k < W.heap.size) ∧ q <+: XS ∧ Jx q Uo W
def FromA (J : List (Pr × Int) → (Nat → Prop) → World → Prop) (key : ByteArray) (yv : Value) (b4 b5 : Nat) (act : Nat → Pr × Int → Act) (pre : List (Pr × Int)) (x : Pr × Int) (a' : Act) (U : Nat → Prop) (W : World) : Prop :=
 ∃ (Uo : Nat → Prop) (bp : Nat), (∀ k, U k ↔ Uo k ∨ k = b4 ∨ k = b5 ∨ k = bp) ∧ ¬ Uo b4 ∧ ¬ Uo b5 ∧ ¬ Uo bp ∧ J (pre.filter (keepK key)) Uo W ∧ Boxed W b4 9 (.string key) ∧ Boxed W b5 90 yv ∧ Blk W bp 55 #[.string x.1.ky, .string x.1.vl] ∧ a' = act bp x
theorem fromI_stab (hs : StabU J) (key : ByteArray) (yv : Value) (b4 b5 : Nat) : StabU (FromI J key yv b4 b5) := fun pre U W W' h hk => by
 obtain ⟨Uo, h1, h2, h3, h4, h5, h6⟩ := h
 exact ⟨Uo, h1, h2, h3, hs _ _ _ _ h4 (hk.mono fun k hu => (h1 k).2 (.inl hu)), (hk.block b4 h5.lt ((h1 _).2 (.inr (.inl rfl)))).trans h5, (hk.block b5 h6.lt ((h1 _).2 (.inr (.inr rfl)))).trans h6⟩
theorem fromI_lt (hl : LtU J) (key : ByteArray) (yv : Value) (b4 b5 : Nat) : LtU (FromI J key yv b4 b5) := fun pre U W h k hk => by
 obtain ⟨Uo, h1, h2, h3, h4, h5, h6⟩ := h
 rcases (h1 k).1 hk with h | rfl | rfl
 ·exact hl _ _ _ h4 k h
 ·exact h5.lt
 ·exact h6.lt
theorem fromX_stab (hs : StabU Jx) (XS : List (Pr × Int)) (b4 b5 : Nat) (c : Code) : StabU (FromX Jx XS b4 b5 c) := fun pre U W W' h hk => by
 obtain ⟨h0, Uo, q, h1, h2, h3, h4⟩ := h
 exact ⟨h0, Uo, q, h1, fun k hu => Nat.lt_of_lt_of_le (h2 k hu) hk.size, h3, hs _ _ _ _ h4 (hk.mono h1)⟩
theorem fromX_lt (XS : List (Pr × Int)) (b4 b5 : Nat) (c : Code) : LtU (FromX Jx XS b4 b5 c) := fun pre U W h k hk => by
 obtain ⟨h0, Uo, q, h1, h2, h3, h4⟩ := h
 exact h2 k hk
theorem fromA_stab (hs : StabU J) (key : ByteArray) (yv : Value) (b4 b5 : Nat) (act : Nat → Pr × Int → Act) (pre : List (Pr × Int)) (x : Pr × Int) (a' : Act) : StabU (fun (_ : Unit) => FromA J key yv b4 b5 act pre x a') := fun _ U W W' h hk => by
 obtain ⟨Uo, bp, h1, h2, h3, h3', h4, h5, h6, h7, h8⟩ := h
 exact ⟨Uo, bp, h1, h2, h3, h3', hs _ _ _ _ h4 (hk.mono fun k hu => (h1 k).2 (.inl hu)), (hk.block b4 h5.lt ((h1 _).2 (.inr (.inl rfl)))).trans h5, (hk.block b5 h6.lt ((h1 _).2 (.inr (.inr (.inl rfl))))).trans h6, (hk.block bp h7.lt ((h1 _).2 (.inr (.inr (.inr rfl))))).trans h7, h8⟩
end
set_option maxRecDepth 100000 in
set_option maxHeartbeats 12800000 in
theorem from1_any {J Jx : List (Pr × Int) → (Nat → Prop) → World → Prop} {fy : Fn} {ay ly : Array Value} (sz : Int) (img : ByteArray) (root : Nat) (key : ByteArray) (H : Hears (fromS sz img root key) J Jx (.func fy ay ly)) (b1 b2 b3 b4 : Nat) (hi : img.size ≤ 400000) (hr : root < 4294967296) (U : Nat → Prop) (w : World)
  (c1 : Boxed w b1 3 (.int .i64 sz)) (c2 : Boxed w b2 9 (.string img)) (c3 : Boxed w b3 23 (.int .u32 root)) (c4 : Boxed w b4 9 (.string key)) (n4 : ¬ U b4) (hj : J [] U w) :
  Calls Tryz.prog 80 #[.func fy ay ly, .pointer (some ⟨b1, 0, none⟩), .pointer (some ⟨b2, 0, none⟩), .pointer (some ⟨b3, 0, none⟩), .pointer (some ⟨b4, 0, none⟩)] w fun e w' => (∃ v, e = .returned v) ∧ ∃ U', (J (fromS sz img root key) U' w' ∨ ∃ pre, pre <+: fromS sz img root key ∧ Jx pre U' w') := by
 refine (callsIn_wide (n := 9)).1 ?_
 refine callsIn_of_wp_marks Tryz.func80 rfl trivial ?_ rfl
 simp only [Tryz.ntmps80, List.size_toArray, List.length_cons, List.length_nil, Nat.reduceAdd, Nat.reduceSub, Array.replicate_succ, Array.replicate_zero, List.push_toArray, List.append_toArray, List.nil_append, List.cons_append]
 gi_upto_region 1 with fail
 obtain ⟨w0, hw0⟩ : ∃ y, y = w.alloc (.cells #[.func fy ay ly] 90) := ⟨_, rfl⟩
 rw [← hw0]
 have e1 : Boxed w0 b1 3 (.int .i64 sz) := by rw [hw0]; exact c1.alloc _
 have e2 : Boxed w0 b2 9 (.string img) := by rw [hw0]; exact c2.alloc _
 have e3 : Boxed w0 b3 23 (.int .u32 root) := by rw [hw0]; exact c3.alloc _
 have E4 := Lib.hid (show Boxed w0 b4 9 (.string key) by rw [hw0]; exact c4.alloc _)
 have E5 := Lib.hid (show Boxed w0 w.heap.size 90 (.func fy ay ly) by rw [hw0]; exact Boxed.new _ _ _)
 have HJ := Lib.hid (show J [] U w0 by rw [hw0]; exact H.sJ _ _ _ _ hj (KeepsU.alloc _ _ _))
 have HLt := Lib.hid (show ∀ k, U k → k < w.heap.size from H.lJ _ _ _ hj)
 have HS0 := Lib.hid (show w0.heap.size = w.heap.size + 1 by rw [hw0]; simp)
 have HL4 := Lib.hid c4.lt
 have d1 := e1.cell
 have d2 := e2.cell
 have d3 := e3.cell
 clear hw0 e1 e2 e3 c1 c2 c3 c4 hj
 gi_wp2_with (refine ⟨trivial, ?_⟩; gi_at_call 45; refine (callsIn_wide.2 (allmake_any sz img root w0)).mono ?_; rintro e w1 ⟨rfl, hw1⟩)
 obtain ⟨g, hg⟩ : ∃ g, g = w0.heap.size := ⟨_, rfl⟩
 rw [← hg]
 obtain ⟨w2, hw2⟩ : ∃ y, y = ((w0.alloc (.cells #[.int .i64 sz] 3)).alloc (.cells #[.string img] 9)).alloc (.cells #[.int .u32 root] 23) := ⟨_, rfl⟩
 rw [← hw2]
 have r1 : Boxed w2 g 3 (.int .i64 sz) := by rw [hw2, hg]; exact ((Boxed.new w0 3 (.int .i64 sz)).alloc _).alloc _
 have r2 : Boxed w2 (g + 1) 9 (.string img) := by
  have := (Boxed.new (w0.alloc (.cells #[.int .i64 sz] 3)) 9 (.string img)).alloc (.cells #[.int .u32 root] 23)
  rw [hw2, hg]; simpa using this
 have r3 : Boxed w2 (g + 1 + 1) 23 (.int .u32 root) := by
  have := Boxed.new ((w0.alloc (.cells #[.int .i64 sz] 3)).alloc (.cells #[.string img] 9)) 23 (.int .u32 root)
  rw [hw2, hg]; simpa using this
 have hb02 : Below w0.heap.size w0 w2 := by rw [hw2]; exact (((Below.refl _ _).alloc (Nat.le_refl _) _).alloc (by simp) _).alloc (by simp; omega) _
 have F4 := E4.out.kept (grown_of_below hb02) (by simp)
 have F5 := E5.out.kept (grown_of_below hb02) (by simp)
 have hJ2 : J [] U w2 := H.sJ _ _ _ _ HJ.out (KeepsU.of_below hb02)
 have hs2 : w2.heap.size = g + 3 := by rw [hw2, hg]; simp
 have hg1 : w.heap.size + 1 = g := by rw [hg]; exact HS0.out.symm
 clear hw2 hb02 E4 E5 HJ HS0 hg d1 d2 d3
 refine wpIn_rangeFunc_U (gf := 79) (lb := #[.pointer (some ⟨g, 0, none⟩), .pointer (some ⟨g + 1, 0, none⟩), .pointer (some ⟨g + 1 + 1, 0, none⟩)]) rfl (fun _ _ => by first | rfl | kernel_rfl) (all_seq sz img root g (g + 1) (g + 1 + 1) hi hr w2 r1 r2 r3) (Below.refl _ _) (by rintro k (rfl | rfl | rfl) <;> omega) (fun _ => rfl)
  (FromI J key (.func fy ay ly) b4 w.heap.size) (FromX Jx (fromS sz img root key) b4 w.heap.size)
  (FromA J key (.func fy ay ly) b4 w.heap.size (fun bp x => { tmps := #[.func fy ay ly, .pointer (some ⟨b1, 0, none⟩), .pointer (some ⟨b2, 0, none⟩), .pointer (some ⟨b3, 0, none⟩), .pointer (some ⟨b4, 0, none⟩), .pointer (some ⟨w.heap.size, 0, none⟩), .pointer (some ⟨bp, 0, none⟩), .int .i64 x.2, undef, .int .i64 sz, .string img, .int .u32 root, .func (.func 79) #[] #[.pointer (some ⟨g, 0, none⟩), .pointer (some ⟨g + 1, 0, none⟩), .pointer (some ⟨g + 1 + 1, 0, none⟩)], .agg #[.string x.1.ky, .string x.1.vl], .int .i64 x.2, undef, undef, undef, undef, undef, undef, undef, undef, undef, undef, undef, undef, undef, undef, undef, undef, undef], defers := [] }))
  (fromI_stab H.sJ _ _ _ _) (fun c => fromX_stab H.sJx _ _ _ c) (fun pre x a' => fromA_stab H.sJ _ _ _ _ _ pre x a') (fromI_lt H.lJ _ _ _ _) (fun c => fromX_lt _ _ _ c)
  (fun k => U k ∨ k = b4 ∨ k = w.heap.size) (by rintro k hk (h | h | h) <;> (try have := HLt.out _ h) <;> (have := HL4.out) <;> omega)
  ⟨U, fun _ => Iff.rfl, n4, fun h => Nat.lt_irrefl _ (HLt.out _ h), hJ2, F4, F5⟩ ?assign ?body ?done ?stop
 case assign =>
  intro m l pre x U' W K hI hx hK
  obtain ⟨Uo, hU, m4, m5, hJ, k4, k5⟩ := hI
  have hl := H.lJ _ _ _ hJ
  have HC := Lib.hid (hK _ (fun k => U' k ∨ k = W.heap.size) (W.alloc (.cells #[.string x.1.ky, .string x.1.vl] 55)) (fun k h => h.elim .inl (fun e => .inr (by omega))) ((Kept.refl _ _).alloc _)
   ⟨Uo, W.heap.size, fun k => ⟨fun h => h.elim (fun h => ((hU k).1 h).elim .inl (fun h => h.elim (fun h => .inr (.inl h)) (fun h => .inr (.inr (.inl h))))) (fun h => .inr (.inr (.inr h))), fun h => h.elim (fun h => .inl ((hU k).2 (.inl h))) (fun h => h.elim (fun h => .inl ((hU k).2 (.inr (.inl h)))) (fun h => h.elim (fun h => .inl ((hU k).2 (.inr (.inr h)))) .inr))⟩, m4, m5, fun h => Nat.lt_irrefl _ (hl _ h), H.sJ _ _ _ _ hJ (KeepsU.alloc _ _ _), k4.alloc _, k5.alloc _, Blk.new _ _ _, rfl⟩)
  clear hK hJ hU k4 k5 m4 m5 hl
  simp only [encP]
  gi_wp2
  exact HC.out
 case body =>
  rintro m l pre x a' U' W ⟨Uo, bp, hU, m4, m5, mp, hJ, k4, k5, kp, rfl⟩ hx
  obtain ⟨⟨ky, vl⟩, er⟩ := x
  dsimp only at kp ⊢
  have q0 := kp.cell 0
  have q1 := kp.cell 1
  have q4 := k4.cell
  have q5 := k5.cell
  simp at q0 q1
  have HF := Lib.hid (show (pre ++ [((⟨ky, vl⟩ : Pr), er)]).filter (keepK key) = pre.filter (keepK key) ++ (if keepK key (⟨ky, vl⟩, er) then [(⟨ky, vl⟩, er)] else []) by rw [List.filter_append, List.filter_cons, List.filter_nil])
  have HX := Lib.hid (show (pre ++ [((⟨ky, vl⟩ : Pr), er)]).filter (keepK key) <+: fromS sz img root key from hx.filter _)
  have HJo := Lib.hid hJ
  have HU := Lib.hid hU
  have K4 := Lib.hid k4
  have K5 := Lib.hid k5
  have M4 := Lib.hid m4
  have M5 := Lib.hid m5
  have HLo := Lib.hid (show ∀ k, Uo k → k < W.heap.size from H.lJ _ _ _ hJ)
  clear hJ hU k4 k5 kp m4 m5 mp hx
  -- what a round leaves where the hearer goes on, or has gone on without it
  have hgo : ∀ W', RoundU J ((pre ++ [((⟨ky, vl⟩ : Pr), er)]).filter (keepK key)) Uo W W' → RoundU (FromI J key (.func fy ay ly) b4 w.heap.size) (pre ++ [((⟨ky, vl⟩ : Pr), er)]) U' W W' := fun W' h => by
   obtain ⟨U2, g1, g2, g3⟩ := h
   have j4 : ¬ U2 b4 := fun h => by rcases g1 _ h with h1 | h1; exact M4.out h1; have := K4.out.lt; omega
   have j5 : ¬ U2 w.heap.size := fun h => by rcases g1 _ h with h1 | h1; exact M5.out h1; have := K5.out.lt; omega
   refine ⟨fun k => U2 k ∨ k = b4 ∨ k = w.heap.size, fun k hk => ?_, g2.mono fun k h => (HU.out k).2 (.inl h), U2, fun _ => Iff.rfl, j4, j5, g3, (g2.block _ K4.out.lt M4.out).trans K4.out, (g2.block _ K5.out.lt M5.out).trans K5.out⟩
   rcases hk with h | rfl | rfl
   ·rcases g1 k h with h1 | h1
    ·exact .inl ((HU.out k).2 (.inl h1))
    ·exact .inr h1
   ·exact .inl ((HU.out _).2 (.inr (.inl rfl)))
   ·exact .inl ((HU.out _).2 (.inr (.inr (.inl rfl))))
  have hnx : ∀ W' q, q <+: fromS sz img root key → RoundU Jx q Uo W W' → RoundU (FromX Jx (fromS sz img root key) b4 w.heap.size .ret) (pre ++ [((⟨ky, vl⟩ : Pr), er)]) U' W W' := fun W' q hq h => by
   obtain ⟨U2, g1, g2, g3⟩ := h
   refine ⟨U2, fun k hk => ?_, g2.mono fun k h => (HU.out k).2 (.inl h), rfl, U2, q, fun _ h => h, H.lJx _ _ _ g3, hq, g3⟩
   rcases g1 k hk with h1 | h1
   ·exact .inl ((HU.out k).2 (.inl h1))
   ·exact .inr h1
  have HGo := Lib.hid hgo
  have HNx := Lib.hid hnx
  clear hgo hnx
  have hwf : ∀ f, Fence.wide.fn f = True := fun _ => rfl
  by_cases he : er = 0
  ·subst he
   rcases hb : Op.bytesLess ky.toList key.toList with _ | _
   ·have HK := Lib.hid (show keepK key (⟨ky, vl⟩, 0) = true by unfold keepK; simp [hb])
    rw [HK.out] at HF
    have HY := H.tell (pre.filter (keepK key)) (⟨ky, vl⟩, 0) Uo W HJo.out (by have h := HX.out; rw [HF.out] at h; simpa using h)
    simp only [encP] at HY
    have HFe := Lib.hid (show (pre ++ [((⟨ky, vl⟩ : Pr), (0 : Int))]).filter (keepK key) = pre.filter (keepK key) ++ [(⟨ky, vl⟩, 0)] by rw [HF.out]; rfl)
    clear HF
    rcases HY with ⟨l', fn, tmps, assign, body, hyv, hy, hR⟩ | ⟨g, lb, hyv, eg, hR⟩
    ·injection hyv with hy1 hy2 hy3
     subst hy1 hy2 hy3
     gi_wp2
     refine ⟨fun h => by simp [Fence.wide] at h, ?_⟩
     refine RoundIn.mono (show RoundIn (Fence.wide.inRound l) _ Tryz.prog l' fn tmps assign body W _ from hR _) ?_
     clear hR hy
     rintro e w7 h
     rw [← HFe.out] at h
     rcases h with ⟨rfl, h⟩ | ⟨rfl, h⟩
     ·have HP := Lib.hid (HGo.out _ h)
      clear h
      gi_wp2
      exact HP.out
     ·have HP := Lib.hid (HNx.out _ _ HX.out h)
      clear h
      gi_wp2
      exact HP.out
    ·injection hyv with hy1 hy2 hy3
     subst hy1 hy2 hy3
     gi_wp2
     refine ⟨fun h => by simp [Fence.wide] at h, ?_⟩
     refine (CallsIn.inRound l (callsIn_wide.2 hR)).mono ?_
     clear hR eg
     rintro e w7 h
     rw [← HFe.out] at h
     rcases h with ⟨rfl, h⟩ | ⟨rfl, h⟩
     ·have HP := Lib.hid (HGo.out _ h)
      clear h
      gi_wp2
      exact HP.out
     ·have HP := Lib.hid (HNx.out _ _ HX.out h)
      clear h
      gi_wp2
      exact HP.out
   ·have HK := Lib.hid (show keepK key (⟨ky, vl⟩, 0) = false by unfold keepK; simp [hb])
    rw [HK.out] at HF
    have HP := Lib.hid (HGo.out W ⟨Uo, fun k h => .inl h, Kept.refl _ _, by rw [HF.out]; simpa using HJo.out⟩)
    clear HF
    gi_wp2
    exact HP.out
  ·have he1 : (er == 0) = false := by simpa using he
   have HK := Lib.hid (show keepK key (⟨ky, vl⟩, er) = true by unfold keepK; simp [he])
   rw [HK.out] at HF
   have HY := H.tell (pre.filter (keepK key)) (⟨ky, vl⟩, er) Uo W HJo.out (by have h := HX.out; rw [HF.out] at h; simpa using h)
   simp only [encP] at HY
   have HFe := Lib.hid (show (pre ++ [((⟨ky, vl⟩ : Pr), (er : Int))]).filter (keepK key) = pre.filter (keepK key) ++ [(⟨ky, vl⟩, er)] by rw [HF.out]; rfl)
   clear HF
   rcases HY with ⟨l', fn, tmps, assign, body, hyv, hy, hR⟩ | ⟨g, lb, hyv, eg, hR⟩
   ·injection hyv with hy1 hy2 hy3
    subst hy1 hy2 hy3
    gi_wp2
    refine ⟨fun h => by simp [Fence.wide] at h, ?_⟩
    refine RoundIn.mono (show RoundIn (Fence.wide.inRound l) _ Tryz.prog l' fn tmps assign body W _ from hR _) ?_
    clear hR hy
    rintro e w7 h
    rw [← HFe.out] at h
    rcases h with ⟨rfl, h⟩ | ⟨rfl, h⟩
    ·have HP := Lib.hid (HGo.out _ h)
     clear h
     gi_wp2
     exact HP.out
    ·have HP := Lib.hid (HNx.out _ _ HX.out h)
     clear h
     gi_wp2
     exact HP.out
   ·injection hyv with hy1 hy2 hy3
    subst hy1 hy2 hy3
    gi_wp2
    refine ⟨fun h => by simp [Fence.wide] at h, ?_⟩
    refine (CallsIn.inRound l (callsIn_wide.2 hR)).mono ?_
    clear hR eg
    rintro e w7 h
    rw [← HFe.out] at h
    rcases h with ⟨rfl, h⟩ | ⟨rfl, h⟩
    ·have HP := Lib.hid (HGo.out _ h)
     clear h
     gi_wp2
     exact HP.out
    ·have HP := Lib.hid (HNx.out _ _ HX.out h)
     clear h
     gi_wp2
     exact HP.out
 case done =>
  rintro D U' W hD hnD ⟨Uo, hU, m4, m5, hJ, k4, k5⟩ hK
  have HP := Lib.hid (show ∃ U', (J (fromS sz img root key) U' (W.putObj D (.deferred none)) ∨ ∃ pre, pre <+: fromS sz img root key ∧ Jx pre U' (W.putObj D (.deferred none))) from ⟨Uo, .inl (H.sJ _ _ _ _ hJ (keepsU_put _ _ fun h => hnD ((hU D).2 (.inl h))))⟩)
  clear hJ hU k4 k5
  gi_wp2
  refine ⟨by simp, .inl ⟨_, _, rfl, run_takeDeferred hK, ?_⟩⟩
  exact ⟨_, results_none rfl _ _ _, ⟨_, rfl⟩, HP.out⟩
 case stop =>
  rintro D c pre U' W hD hnD hpre ⟨rfl, Uo, q, hU, hlt, hq, hJ⟩ hK
  have HP := Lib.hid (show ∃ U', (J (fromS sz img root key) U' (W.putObj D (.deferred none)) ∨ ∃ pre, pre <+: fromS sz img root key ∧ Jx pre U' (W.putObj D (.deferred none))) from ⟨Uo, .inr ⟨q, hq, H.sJx _ _ _ _ hJ (keepsU_put _ _ fun h => hnD (hU D h))⟩⟩)
  clear hJ hU hq
  gi_wp2
  refine ⟨by simp, .inl ⟨_, _, rfl, run_takeDeferred hK, ?_⟩⟩
  exact ⟨_, results_none rfl _ _ _, ⟨_, rfl⟩, HP.out⟩
theorem frommake_any (sz : Int) (img : ByteArray) (root : Nat) (key : ByteArray) (w : World) :
  Calls Tryz.prog 46 #[.int .i64 sz, .string img, .int .u32 root, .string key] w fun e w' => e = .returned (.func (.func 80) #[] #[.pointer (some ⟨w.heap.size, 0, none⟩), .pointer (some ⟨w.heap.size + 1, 0, none⟩), .pointer (some ⟨w.heap.size + 1 + 1, 0, none⟩), .pointer (some ⟨w.heap.size + 1 + 1 + 1, 0, none⟩)]) ∧
   w' = (((w.alloc (.cells #[.int .i64 sz] 3)).alloc (.cells #[.string img] 9)).alloc (.cells #[.int .u32 root] 23)).alloc (.cells #[.string key] 9) := by
 have hmf : ∀ (fn : Fn) (first cap : Array Value) (w : World), (Instr.makeFunc fn first cap).run Tryz.prog w = .ok (.func fn first cap) w := fun _ _ _ _ => rfl
 go_enter Tryz.func46, Tryz.ntmps46
 go_wp2_with fail
 go_ret
 exact ⟨by simp [Nat.add_assoc], rfl⟩
theorem from_seq (sz : Int) (img : ByteArray) (root : Nat) (key : ByteArray) (b1 b2 b3 b4 : Nat) (hi : img.size ≤ 400000) (hr : root < 4294967296) (w : World)
  (c1 : Boxed w b1 3 (.int .i64 sz)) (c2 : Boxed w b2 9 (.string img)) (c3 : Boxed w b3 23 (.int .u32 root)) (c4 : Boxed w b4 9 (.string key)) :
  SeqU Tryz.prog 80 #[.pointer (some ⟨b1, 0, none⟩), .pointer (some ⟨b2, 0, none⟩), .pointer (some ⟨b3, 0, none⟩), .pointer (some ⟨b4, 0, none⟩)] encP (fromS sz img root key) (fun k => k = b1 ∨ k = b2 ∨ k = b3 ∨ k = b4) w := fun l n J Jx U0 W hW sJ sJx lJ lJx hM hY h0 =>
 callsIn_wide.2 (from1_any (fy := .yield l) (ay := #[]) (ly := #[]) sz img root key ⟨sJ, sJx, lJ, lJx, fun pre x U W1 hj hx => YieldsTo.of_yield (hY 0 pre x U W1 hj hx)⟩ b1 b2 b3 b4 hi hr U0 W ((hW.block b1 c1.lt).trans c1) ((hW.block b2 c2.lt).trans c2) ((hW.block b3 c3.lt).trans c3) ((hW.block b4 c4.lt).trans c4) (hM b4 (.inr (.inr (.inr rfl)))) h0)
end Go.Proofs.YtmmjckokjmpfpaaGreat

