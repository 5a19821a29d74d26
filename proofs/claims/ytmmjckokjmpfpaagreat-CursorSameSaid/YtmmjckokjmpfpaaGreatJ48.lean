/-
  Texts that the main proof rests on, put together: CuTree, CuAll. No statement is proved here.
-/
import Derived.Test.YtmmjckokjmpfpaaGreatJ47
set_option linter.unusedVariables false
set_option linter.unusedSimpArgs false
namespace Go.Proofs.YtmmjckokjmpfpaaGreat
open Go.RowKit Go.Shelf
attribute [local go_sem] Oper.semAt_some
attribute [local go_sem ↓] Go.wp_at_zero Go.wp_at_succ

def treeS (size : Int) (s : ByteArray) (root : Nat) : List (Pr × Int) := stepsT (treeV size s root).1 (treeE size s root)
theorem treeS_bad {size : Int} {s : ByteArray} {root : Nat} (h : goodSize size = false) : treeS size s root = [(Pr.zero, 2)] := by
 unfold treeS treeV treeE stepsT
 rw [h]
 simp
theorem treeS_nil {size : Int} {s : ByteArray} (h : goodSize size = true) : treeS size s 0 = [] := by
 unfold treeS treeE stepsT treeV
 rw [h]
 simp
theorem treeS_is {size : Int} {s : ByteArray} {root : Nat} (h : goodSize size = true) (hr : root ≠ 0) : treeS size s root = stepsV (trav size s 16 root []) := by
 unfold treeS treeE stepsT stepsV treeV
 rw [h]
 simp only [if_true, if_neg hr]
 rcases (trav size s 16 root []).2 with _ | M
 ·simp
 ·simp
def TreePost (bv bm : Nat) (sz : Int) (img : ByteArray) (root : Nat) (J Jx : List (Pr × Int) → (Nat → Prop) → World → Prop) (V : Value) (U : Nat → Prop) (w : World) (e : Ending) (w' : World) : Prop :=
 (∃ v, e = .returned v) ∧ ∃ (V' : Value) (U' : Nat → Prop), Far bv bm V U w V' U' w' ∧
  ((J (treeS sz img root) U' w' ∧ ∀ M, (treeV sz img root).2 = some M → Vis w' bv bm sz img M V')
  ∨ (∃ q, q <+: treeS sz img root ∧ Jx q U' w'))
set_option maxRecDepth 100000 in
set_option maxHeartbeats 12800000 in
theorem tree_any {J Jx : List (Pr × Int) → (Nat → Prop) → World → Prop} {yv : Value} (sz : Int) (img : ByteArray) (root : Nat) (H : Hears (treeS sz img root) J Jx yv) (bv bm : Nat) (hi : img.size ≤ 400000) (hr : root < 4294967296) (V : Value) (U : Nat → Prop) (w : World) (hv : Vis w bv bm sz img [] V) (hd : ∀ k, FV bv bm V k → ¬ U k) (hj : J [] U w) :
  Calls Tryz.prog 43 #[.pointer (some ⟨bv, 0, none⟩), .int .u32 root, yv] w (TreePost bv bm sz img root J Jx V U w) := by
 have v0 := hv.blk.cell 0
 simp at v0
 rcases hg : goodSize sz with _ | _
 ·have HS := Lib.hid (treeS_bad (s := img) (root := root) hg)
  have HN := Lib.hid (show (treeV sz img root).2 = none by unfold treeV; rw [hg]; rfl)
  have HV := Lib.hid hv
  have HY := H.tell [] (Pr.zero, 2) U w hj (by rw [HS.out]; exact List.prefix_rfl)
  simp only [encP, Pr.zero] at HY
  have HG := Lib.hid (fun w => dgood_is sz false w hg)
  clear hv hd hj hg
  have hfin : ∀ (e : Ending) w', AfterU J Jx U w ([] ++ [(Pr.zero, 2)]) e w' → ∀ v, TreePost bv bm sz img root J Jx V U w (.returned v) w' := fun e w' h v => by
   refine ⟨⟨_, rfl⟩, ?_⟩
   rcases h with ⟨_, h⟩ | ⟨_, h⟩
   ·obtain ⟨U', hf, hj⟩ := Far.of_round (bv := bv) (bm := bm) (V := V) h
    exact ⟨V, U', hf, .inl ⟨by rw [HS.out]; exact hj, fun M hm => by rw [HN.out] at hm; cases hm⟩⟩
   ·obtain ⟨U', hf, hj⟩ := Far.of_round (bv := bv) (bm := bm) (V := V) h
    exact ⟨V, U', hf, .inr ⟨_, by rw [HS.out]; exact List.prefix_rfl, hj⟩⟩
  have HFin := Lib.hid hfin
  clear hfin
  have hmx : Tryz.prog.follows .mixedOrders = true := by kernel_rfl
  rcases HY with ⟨l', fn, tmps, assign, body, rfl, hy, hR⟩ | ⟨g, lb, rfl, eg, hR⟩
  ·refine (callsIn_wide (n := 9)).1 ?_
   refine callsIn_of_wp Tryz.func43 rfl trivial ?_ rfl
   simp only [Tryz.ntmps43, List.size_toArray, List.length_cons, List.length_nil, Nat.reduceAdd, Nat.reduceSub, Array.replicate_succ, Array.replicate_zero, List.push_toArray, List.append_toArray, List.nil_append, List.cons_append]
   gi_wp2_with (refine ⟨trivial, ?_⟩; gi_at_call 71; refine (callsIn_wide.2 (HG.out _)).mono ?_; rintro e w' ⟨rfl, rfl⟩)
   refine (hR _).mono ?_
   rintro e w7 h
   rcases h with ⟨rfl, h⟩ | ⟨rfl, h⟩
   ·have HP := Lib.hid (HFin.out _ _ (.inl ⟨rfl, h⟩))
    clear h
    gi_wp2
    refine bodyPost_ret (results_none rfl _ _ _) rfl ?_
    exact HP.out _
   ·have HP := Lib.hid (HFin.out _ _ (.inr ⟨rfl, h⟩))
    clear h
    gi_wp2
    refine bodyPost_ret (results_none rfl _ _ _) rfl ?_
    exact HP.out _
  ·refine (callsIn_wide (n := 9)).1 ?_
   refine callsIn_of_wp Tryz.func43 rfl trivial ?_ rfl
   simp only [Tryz.ntmps43, List.size_toArray, List.length_cons, List.length_nil, Nat.reduceAdd, Nat.reduceSub, Array.replicate_succ, Array.replicate_zero, List.push_toArray, List.append_toArray, List.nil_append, List.cons_append]
   gi_wp2_with (refine ⟨trivial, ?_⟩; gi_at_call 71; refine (callsIn_wide.2 (HG.out _)).mono ?_; rintro e w' ⟨rfl, rfl⟩)
   refine ⟨trivial, ?_⟩
   refine (callsIn_wide.2 hR).mono ?_
   rintro e w7 h
   rcases h with ⟨rfl, h⟩ | ⟨rfl, h⟩
   ·have HP := Lib.hid (HFin.out _ _ (.inl ⟨rfl, h⟩))
    clear h
    gi_wp2
    refine bodyPost_ret (results_none rfl _ _ _) rfl ?_
    exact HP.out _
   ·have HP := Lib.hid (HFin.out _ _ (.inr ⟨rfl, h⟩))
    clear h
    gi_wp2
    refine bodyPost_ret (results_none rfl _ _ _) rfl ?_
    exact HP.out _
 ·have HG := Lib.hid (fun w => dgood_is sz true w hg)
  by_cases h0 : root = 0
  ·subst h0
   have HP := Lib.hid (show ∀ v, TreePost bv bm sz img 0 J Jx V U w (.returned v) w from fun v => ⟨⟨_, rfl⟩, V, U, Far.refl _ _ _ _ _, .inl ⟨by rw [treeS_nil hg]; exact hj, fun M hm => by unfold treeV at hm; rw [hg] at hm; simp at hm; subst hm; exact hv⟩⟩)
   clear hv hd hj hg H
   refine (callsIn_wide (n := 9)).1 ?_
   refine callsIn_of_wp Tryz.func43 rfl trivial ?_ rfl
   simp only [Tryz.ntmps43, List.size_toArray, List.length_cons, List.length_nil, Nat.reduceAdd, Nat.reduceSub, Array.replicate_succ, Array.replicate_zero, List.push_toArray, List.append_toArray, List.nil_append, List.cons_append]
   gi_wp2_with (refine ⟨trivial, ?_⟩; gi_at_call 71; refine (callsIn_wide.2 (HG.out _)).mono ?_; rintro e w' ⟨rfl, rfl⟩)
   refine bodyPost_ret (results_none rfl _ _ _) rfl ?_
   exact HP.out _
  ·have HT := Lib.hid (traverse_any H sz img bv bm hi 16 1 rfl root [] V [] U w hr (InL.nil img) hv hd hj (by rw [treeS_is hg h0]; exact List.prefix_rfl))
   have HS := Lib.hid (treeS_is (s := img) hg h0)
   have HV := Lib.hid (show treeV sz img root = trav sz img 16 root [] by unfold treeV; rw [hg]; simp [h0])
   have h1 : ((root : Int) != 0) = true := by simp; omega
   have h2 : (root != 0) = true := by simp; omega
   clear hv hd hj hg H h0
   refine (callsIn_wide (n := 9)).1 ?_
   refine callsIn_of_wp Tryz.func43 rfl trivial ?_ rfl
   simp only [Tryz.ntmps43, List.size_toArray, List.length_cons, List.length_nil, Nat.reduceAdd, Nat.reduceSub, Array.replicate_succ, Array.replicate_zero, List.push_toArray, List.append_toArray, List.nil_append, List.cons_append]
   gi_wp2_with (refine ⟨trivial, ?_⟩; gi_at_call 71; refine (callsIn_wide.2 (HG.out _)).mono ?_; rintro e w' ⟨rfl, rfl⟩)
   refine ⟨trivial, ?_⟩
   refine (callsIn_wide.2 HT.out).mono ?_
   rintro e w7 ⟨V', U', hf, h⟩
   rcases h with ⟨M, hm, rfl, hv', hd', hj'⟩ | ⟨rfl, hn', hj'⟩ | ⟨rfl, q, hq, hj'⟩
   ·have HP := Lib.hid (show ∀ v, TreePost bv bm sz img root J Jx V U _ (.returned v) w7 from fun v => ⟨⟨_, rfl⟩, V', U', hf, .inl ⟨by rw [HS.out]; exact hj', fun M' hm' => by rw [HV.out, hm] at hm'; injection hm' with hm'; subst hm'; exact hv'⟩⟩)
    clear hf hm hv' hd' hj'
    gi_wp2
    refine bodyPost_ret (results_none rfl _ _ _) rfl ?_
    exact HP.out _
   ·have HP := Lib.hid (show ∀ v, TreePost bv bm sz img root J Jx V U _ (.returned v) w7 from fun v => ⟨⟨_, rfl⟩, V', U', hf, .inl ⟨by rw [HS.out]; exact hj', fun M' hm' => by rw [HV.out, hn'] at hm'; cases hm'⟩⟩)
    clear hf hn' hj'
    gi_wp2
    refine bodyPost_ret (results_none rfl _ _ _) rfl ?_
    exact HP.out _
   ·have HP := Lib.hid (show ∀ v, TreePost bv bm sz img root J Jx V U _ (.returned v) w7 from fun v => ⟨⟨_, rfl⟩, V', U', hf, .inr ⟨q, by rw [HS.out]; exact hq, hj'⟩⟩)
    clear hf hq hj'
    gi_wp2
    refine bodyPost_ret (results_none rfl _ _ _) rfl ?_
    exact HP.out _
end Go.Proofs.YtmmjckokjmpfpaaGreat

namespace Go.Proofs.YtmmjckokjmpfpaaGreat
open Go.RowKit Go.Shelf
attribute [local go_sem] Oper.semAt_some
attribute [local go_sem ↓] Go.wp_at_zero Go.wp_at_succ

theorem visitor_any (sz : Int) (img : ByteArray) (w : World) : Calls Tryz.prog 42 #[.int .i64 sz, .string img] w fun e w' => e = .returned (.pointer (some ⟨w.heap.size + 1, 0, none⟩)) ∧ Below w.heap.size w w' ∧ Vis w' (w.heap.size + 1) w.heap.size sz img [] (.slice none 0 0) ∧ w'.heap.size = w.heap.size + 2 := by
 have hmm := @run_makeMap Tryz.prog
 have HP := Lib.hid (show Below w.heap.size w ((w.alloc (.map #[] 0)).alloc (.cells #[.int .i64 sz, .string img, .map (some w.heap.size), .slice none 0 0] 93)) ∧ Vis ((w.alloc (.map #[] 0)).alloc (.cells #[.int .i64 sz, .string img, .map (some w.heap.size), .slice none 0 0] 93)) (w.heap.size + 1) w.heap.size sz img [] (.slice none 0 0) ∧ ((w.alloc (.map #[] 0)).alloc (.cells #[.int .i64 sz, .string img, .map (some w.heap.size), .slice none 0 0] 93)).heap.size = w.heap.size + 2 from by
  refine ⟨((Below.refl _ _).alloc (Nat.le_refl _) _).alloc (by simp) _, ⟨?_, ?_, World.ownsRow_nil _ _ _ _⟩, by simp⟩
  ·have := Blk.new (w.alloc (.map #[] 0)) 93 #[.int .i64 sz, .string img, .map (some w.heap.size), .slice none 0 0]
   simpa using this
  ·have := (World.ownsMap_made w Tryz.prog 23 (unitElem (H := Unit))).alloc (.cells #[.int .i64 sz, .string img, .map (some w.heap.size), .slice none 0 0] 93)
   exact this)
 go_enter Tryz.func42, Tryz.ntmps42
 go_wp2_with fail
 go_ret
 exact ⟨rfl, HP.out⟩
set_option maxRecDepth 100000 in
set_option maxHeartbeats 12800000 in
theorem all1_any {J Jx : List (Pr × Int) → (Nat → Prop) → World → Prop} {yv : Value} (sz : Int) (img : ByteArray) (root : Nat) (H : Hears (treeS sz img root) J Jx yv) (b1 b2 b3 : Nat) (hi : img.size ≤ 400000) (hr : root < 4294967296) (U : Nat → Prop) (w : World)
  (c1 : Boxed w b1 3 (.int .i64 sz)) (c2 : Boxed w b2 9 (.string img)) (c3 : Boxed w b3 23 (.int .u32 root)) (n1 : ¬ U b1) (n2 : ¬ U b2) (n3 : ¬ U b3) (hj : J [] U w) :
  Calls Tryz.prog 79 #[yv, .pointer (some ⟨b1, 0, none⟩), .pointer (some ⟨b2, 0, none⟩), .pointer (some ⟨b3, 0, none⟩)] w fun e w' => (∃ v, e = .returned v) ∧ ∃ U', (J (treeS sz img root) U' w' ∨ ∃ pre, pre <+: treeS sz img root ∧ Jx pre U' w') := by
 have C1 := Lib.hid c1
 have C2 := Lib.hid c2
 have C3 := Lib.hid c3
 have HJ := Lib.hid hj
 have HI := Lib.hid hi
 have HR := Lib.hid hr
 clear c1 c2 c3 hj hi hr
 go_enter Tryz.func79, Tryz.ntmps79
 go_upto_region 0 with fail
 refine wp_region_held_drew (S := (fun w' => w'.cell? ⟨b1, 0, none⟩ = some (.int .i64 sz) ∧ w'.cell? ⟨b2, 0, none⟩ = some (.string img) ∧ w'.cell? ⟨b3, 0, none⟩ = some (.int .u32 root))) (by kernel_rfl) (show _ ∧ _ from ⟨C1.out.cell, C2.out.cell, C3.out.cell⟩) (fun _ => ?_)
 refine tkA (i := 0) ?_
 try simp only [tkP]
 refine tkA (i := 1) ?_
 try simp only [tkP]
 refine tkA (i := 3) ?_
 try simp only [tkP]
 refine tkA (i := 4) ?_
 try simp only [tkP]
 refine wpAnyH_ready (rs := [2]) (by kernel_rfl) (by simp) ?_
 refine tkC (fun K hK => ?_)
 go_simp
 refine (visitor_any sz img _).mono ?_
 rintro e w1 ⟨rfl, hb1, hv1, hs1⟩
 have HB1 := Lib.hid hb1
 have HV1 := Lib.hid hv1
 have HJ1 := Lib.hid (H.sJ _ _ _ _ HJ.out (KeepsU.of_below ((Below.refl _ w).drew.trans hb1)))
 refine hK.out _ _ (show _ ∧ _ from ⟨(hb1.cell (p := ⟨b1, 0, none⟩) C1.out.lt).trans C1.out.cell, (hb1.cell (p := ⟨b2, 0, none⟩) C2.out.lt).trans C2.out.cell, (hb1.cell (p := ⟨b3, 0, none⟩) C3.out.lt).trans C3.out.cell⟩) (fun hHeld => ?_)
 clear hK K hb1 hv1 hs1
 try simp only [tkP]
 refine wpAnyH_ready (rs := [5]) (by kernel_rfl) (by simp) ?_
 refine tkC (fun K hK => ?_)
 go_simp
 refine (tree_any sz img root H (w.drew.heap.size + 1) w.drew.heap.size HI.out HR.out _ U w1 HV1.out (fun k hk hu => by have h1 : k < w.heap.size := H.lJ _ _ _ HJ.out k hu; rcases hk with h | h | h <;> simp [Value.ownBlock] at h <;> omega) HJ1.out).mono ?_
 rintro e w2 ⟨⟨v, rfl⟩, V2, U2, hf2, hq⟩
 have HQ := Lib.hid (show ∃ U', (J (treeS sz img root) U' w2 ∨ ∃ pre, pre <+: treeS sz img root ∧ Jx pre U' w2) from ⟨U2, hq.elim (fun h => .inl h.1) .inr⟩)
 have hnv : ∀ b, b < w.heap.size → ¬ U b → ∀ v, w1.cell? ⟨b, 0, none⟩ = some v → w2.cell? ⟨b, 0, none⟩ = some v := fun b hb hn v hc => (hf2.kept.cell (p := ⟨b, 0, none⟩) (Nat.lt_of_lt_of_le hb HB1.out.size) (fun h => h.elim (fun h => by have hz : w.drew.heap.size = w.heap.size := rfl; rcases h with h | h | h <;> simp [Value.ownBlock] at h <;> omega) hn)).trans hc
 have h1 := hnv b1 C1.out.lt n1 _ hHeld.1
 have h2 := hnv b2 C2.out.lt n2 _ hHeld.2.1
 have h3 := hnv b3 C3.out.lt n3 _ hHeld.2.2
 refine hK.out _ _ (show _ ∧ _ from ⟨h1, h2, h3⟩) (fun hHeld => ?_)
 clear h1 h2 h3 hnv
 clear hK K hf2 hq
 try simp only [tkP]
 refine wpAnyH_done (by kernel_rfl) ?_ _
 go_wp2_with fail
 go_end0
 exact ⟨⟨_, rfl⟩, HQ.out⟩
theorem allmake_any (sz : Int) (img : ByteArray) (root : Nat) (w : World) :
  Calls Tryz.prog 45 #[.int .i64 sz, .string img, .int .u32 root] w fun e w' => e = .returned (.func (.func 79) #[] #[.pointer (some ⟨w.heap.size, 0, none⟩), .pointer (some ⟨w.heap.size + 1, 0, none⟩), .pointer (some ⟨w.heap.size + 1 + 1, 0, none⟩)]) ∧
   w' = ((w.alloc (.cells #[.int .i64 sz] 3)).alloc (.cells #[.string img] 9)).alloc (.cells #[.int .u32 root] 23) := by
 have hmf : ∀ (fn : Fn) (first cap : Array Value) (w : World), (Instr.makeFunc fn first cap).run Tryz.prog w = .ok (.func fn first cap) w := fun _ _ _ _ => rfl
 go_enter Tryz.func45, Tryz.ntmps45
 go_wp2_with fail
 go_ret
 exact ⟨by simp [Nat.add_assoc], rfl⟩
theorem all_seq (sz : Int) (img : ByteArray) (root : Nat) (b1 b2 b3 : Nat) (hi : img.size ≤ 400000) (hr : root < 4294967296) (w : World)
  (c1 : Boxed w b1 3 (.int .i64 sz)) (c2 : Boxed w b2 9 (.string img)) (c3 : Boxed w b3 23 (.int .u32 root)) :
  SeqU Tryz.prog 79 #[.pointer (some ⟨b1, 0, none⟩), .pointer (some ⟨b2, 0, none⟩), .pointer (some ⟨b3, 0, none⟩)] encP (treeS sz img root) (fun k => k = b1 ∨ k = b2 ∨ k = b3) w := fun l n J Jx U0 W hW sJ sJx lJ lJx hM hY h0 =>
 callsIn_wide.2 (all1_any (yv := .func (.yield l) #[] #[]) sz img root ⟨sJ, sJx, lJ, lJx, fun pre x U W1 hj hx => YieldsTo.of_yield (hY 0 pre x U W1 hj hx)⟩ b1 b2 b3 hi hr U0 W ((hW.block b1 c1.lt).trans c1) ((hW.block b2 c2.lt).trans c2) ((hW.block b3 c3.lt).trans c3) (hM b1 (.inl rfl)) (hM b2 (.inr (.inl rfl))) (hM b3 (.inr (.inr rfl))) h0)
end Go.Proofs.YtmmjckokjmpfpaaGreat

