/-
  Texts that the main proof rests on, put together: CuVisit, FrameBdy, FrameBody, FrameLaw. No statement is proved here.
-/
import Derived.Maps.OwnSet
import Derived.Maps.OwnOps
import Derived.Test.YtmmjckokjmpfpaaGreatJ10
import Derived.Test.YtmmjckokjmpfpaaGreatJ15
import Derived.Test.YtmmjckokjmpfpaaGreatJ11
import Derived.Test.YtmmjckokjmpfpaaGreatJ1
import Derived.Test.YtmmjckokjmpfpaaGreatJ12
import Derived.Lib.Hide
import Derived.Test.YtmmjckokjmpfpaaGreatJ3
import Derived.Test.YtmmjckokjmpfpaaGreatJ7
import Derived.Laws.CopyRow
import Derived.Laws.IdiomCopy
import Derived.Laws.ResultCell
import Derived.Deep.WholeRow
set_option linter.unusedVariables false
set_option linter.unusedSimpArgs false
namespace Go.Proofs.YtmmjckokjmpfpaaGreat
open Go.RowKit
open Go.Lib hiding intOf
attribute [local go_sem ↓] Go.wp_at_zero Go.wp_at_succ

theorem grown_setC (w : World) (g o : Nat) (v : Value) : w.grownBy (w.setCell ⟨g, o, none⟩ v) (some g) := ⟨rfl, rfl, rfl, by simp [World.setCell], fun k _ hne => Below.heap_setCell _ _ _ _ (fun e => hne (by rw [e]))⟩
def keysU (L : List Nat) : List Lit := L.map fun (n : Nat) => Lit.int .u32 (n : Int)
theorem keysU_ok (L : List Nat) : ∀ x ∈ keysU L, WideAt.IsKeyLit x := fun x hx => by
 obtain ⟨p, _, rfl⟩ := List.mem_map.1 hx
 simp [WideAt.IsKeyLit]
theorem has_keysU (L : List Nat) (h : Nat) : Maps.has (Maps.setOf (H := Unit) (.agg []) (keysU L)) (.int .u32 (h : Int)) = decide (h ∈ L) := by
 rw [Maps.has_setOf _ _ _ (keysU_ok L)]
 unfold keysU
 rw [List.any_map]
 induction L with
 | nil => simp
 | cons a t ih =>
  simp only [List.any_cons, ih, List.mem_cons, Bool.decide_or]
  congr 1
  simp only [Function.comp, Lit.sameKey, true_and, decide_eq_decide]
  constructor <;> intro h <;> omega
structure Vis (w : World) (bv bm : Nat) (sz : Int) (img : ByteArray) (L : List Nat) (V : Value) : Prop where
 blk : Blk w bv 93 #[.int .i64 sz, .string img, .map (some bm), V]
 map : w.ownsMap Tryz.prog 23 (unitElem (H := Unit)) bm L.length (Maps.setOf (.agg []) (keysU L))
 row : w.ownsRow 0 23 1 V L.length (ucells L)
def FV (bv bm : Nat) (V : Value) : Nat → Prop := fun k => k = bv ∨ k = bm ∨ V.ownBlock = some k
theorem Vis.ltV {w : World} {bv bm : Nat} {sz : Int} {img : ByteArray} {L : List Nat} {V : Value} (h : Vis w bv bm sz img L V) : bv < w.heap.size := h.blk.lt
theorem Vis.ltM {w : World} {bv bm : Nat} {sz : Int} {img : ByteArray} {L : List Nat} {V : Value} (h : Vis w bv bm sz img L V) : bm < w.heap.size := h.map.lt
theorem Vis.ltF {w : World} {bv bm : Nat} {sz : Int} {img : ByteArray} {L : List Nat} {V : Value} (h : Vis w bv bm sz img L V) : ∀ k, FV bv bm V k → k < w.heap.size := by
 rintro k (rfl | rfl | h1)
 ·exact h.ltV
 ·exact h.ltM
 ·exact (h.row.lt k h1).2
theorem Vis.ne {w : World} {bv bm : Nat} {sz : Int} {img : ByteArray} {L : List Nat} {V : Value} (h : Vis w bv bm sz img L V) : bm ≠ bv ∧ V.ownBlock ≠ some bv ∧ V.ownBlock ≠ some bm := by
 obtain ⟨es, ck, hh, _⟩ := h.map
 refine ⟨?_, own_ne_blk h.row h.blk (by decide), ?_⟩
 ·rintro rfl
  have := h.blk
  unfold Blk at this
  rw [hh] at this
  cases this
 ·intro he
  rcases h.row.2 with ⟨rfl, _⟩ | ⟨g, cap, cur, rfl, _, hg, _⟩
  ·simp [Value.ownBlock] at he
  ·simp [Value.ownBlock] at he
   subst he
   rw [hh] at hg
   cases hg
theorem ownsMap_kept {w w' : World} {F : Nat → Prop} {b n : Nat} {k : TypeId} {D : DataW Unit} (hk : Kept F w w') (hn : ¬ F b) (h : w.ownsMap Tryz.prog k (unitElem (H := Unit)) b n D) : w'.ownsMap Tryz.prog k (unitElem (H := Unit)) b n D := by
 obtain ⟨es, ck, hh, hr⟩ := h
 exact ⟨es, ck, (hk.block b (Array.getElem?_eq_some_iff.1 hh).1 hn).trans hh, hr⟩
theorem Vis.kept {w w' : World} {F : Nat → Prop} {bv bm : Nat} {sz : Int} {img : ByteArray} {L : List Nat} {V : Value} (h : Vis w bv bm sz img L V) (hk : Kept F w w') (hn : ∀ k, FV bv bm V k → ¬ F k) : Vis w' bv bm sz img L V :=
 ⟨hk.blk h.blk (hn _ (.inl rfl)), ownsMap_kept hk (hn _ (.inr (.inl rfl))) h.map, hk.own h.row fun k e => hn k (.inr (.inr e))⟩
theorem Vis.below {w w' : World} {bv bm : Nat} {sz : Int} {img : ByteArray} {L : List Nat} {V : Value} (h : Vis w bv bm sz img L V) (hb : Below w.heap.size w w') : Vis w' bv bm sz img L V :=
 h.kept (F := fun _ => False) (Kept.of_new hb |>.mono (fun _ h => h)) (fun _ _ h => h)
def VisitPost (bv bm : Nat) (sz : Int) (img : ByteArray) (L ps : List Nat) (V : Value) (w : World) (e : Ending) (w' : World) : Prop :=
 Kept (FV bv bm V) w w' ∧ match visitL L ps with
  | some M => e = .returned (.bool true) ∧ ∃ V', Vis w' bv bm sz img M V' ∧ ∀ g, V'.ownBlock = some g → V.ownBlock = some g ∨ w.heap.size ≤ g
  | none => e = .returned (.bool false)
set_option maxRecDepth 100000 in
set_option maxHeartbeats 6400000 in
theorem visit_any (bv bm : Nat) (sz : Int) (img : ByteArray) (L ps : List Nat) (V : Value) (A : Option Addr) (n c : Nat) (w : World) (hv : Vis w bv bm sz img L V) (hr : Reads w w.heap.size 1 A n (ucells ps)) (hA : ∀ ad, A = some ad → ¬ FV bv bm V ad.block)
  (hps : ∀ p ∈ ps, p < 4294967296) (hn : L.length + n ≤ 1000000) :
  Calls Tryz.prog 106 #[.pointer (some ⟨bv, 0, none⟩), .slice A n c] w (VisitPost bv bm sz img L ps V w) := by
 obtain ⟨i0, hi0, hz0, hz1, hz2⟩ := info_parts infoU32
 have HV := Lib.hid hv
 have HR := Lib.hid hr
 have HA := Lib.hid hA
 have HP := Lib.hid hps
 have hlen : ps.length = n := by have := hr.1; simpa [ucells] using this
 have HLn := Lib.hid hlen
 have HN9 := Lib.hid hn
 have HK0 := Lib.hid (Kept.refl (FV bv bm V) w)
 clear hv hr hA hps hlen hn
 go_enter Tryz.func106, Tryz.ntmps106
 go_wp2_with fail
 go_loopw [11] (fun i wr => ∃ (k : Nat) (M : List Nat) (V' : Value), k ≤ n ∧ i = .int .i64 k ∧ Hid (visitL L (ps.take k) = some M) ∧ Hid (Vis wr bv bm sz img M V') ∧ Hid (Kept (FV bv bm V) w wr) ∧ Hid (∀ g, V'.ownBlock = some g → V.ownBlock = some g ∨ w.heap.size ≤ g)) (fun i _ => n - (intOf i).toNat)
 case atStart => exact ⟨0, L, V, Nat.zero_le _, rfl, Lib.hid rfl, HV, HK0, Lib.hid fun g h => .inl h⟩
 case round =>
  clear HK0
  obtain ⟨k, M, V', hk, rfl, HVs, HV', HK, HG⟩ := hrel
  by_cases hlt : k < n
  ·obtain ⟨ad, u, rfl, hb, hu, hc⟩ := HR.out.at_ hlt
   obtain ⟨x, hx, rfl⟩ : ∃ x, ps[k]? = some x ∧ u = .int .u32 (x : Int) := by
    unfold ucells at hu
    rw [List.getElem?_map] at hu
    rcases hp : ps[k]? with _ | x
    ·rw [hp] at hu; cases hu
    ·rw [hp] at hu; injection hu with hu; exact ⟨x, rfl, hu.symm⟩
   have hx9 : x < 4294967296 := HP.out x (List.mem_of_getElem? hx)
   have hca : wr.cell? (ad.add k) = some (.int .u32 (x : Int)) := (HK.out.cell (p := ad.add k) (by rw [block_add]; exact hb) (by rw [block_add]; exact HA.out ad rfl)).trans hc
   have HT := Lib.hid (take_snoc_at hx)
   have HCa := Lib.hid hca
   have hVn : visitL L (ps.take (k + 1)) = if x ∈ M then none else some (M ++ [x]) := by rw [HT.out, visitL_snoc, HVs.out]
   have HVn := Lib.hid hVn
   have hM9 : M.length + 1 ≤ 1000000 := by
    have h1 := visitL_some HVs.out
    have h2 := HN9.out
    rw [h1, List.length_append, List.length_take]
    omega
   have hkey : keyOf Tryz.prog 23 (.int .u32 x) = some (.int .u32 x) := Maps.keyOf_int_mk Tryz.underlying23 (by simp [Lit.wf, IntKind.min, IntKind.max, IntKind.signed, IntKind.bits]; omega)
   have HT2 := Lib.hid (has_keysU M x)
   have v2 := HV'.out.blk.cell 2
   simp at v2
   have hown := HV'.out.map
   clear hc hu hx hVn HT hb
   by_cases hm : x ∈ M
   ·have HM := Lib.hid (show visitL L ps = none from visitL_front (k := k + 1) (by rw [HVn.out, if_pos hm]))
    have hT3 : decide (x ∈ M) = true := decide_eq_true hm
    clear hm
    go_wp2_with (at_lookup; refine wpList_lookup_own_unit _ rfl _ _ 91 rfl 23 185 (Maps.int_keyed Tryz.underlying23) Tryz.underlying91 (Tryz.zeroValue185 _) bm M.length _ rfl hown _ _ rfl hkey ?_; rw [HT2.out, hT3])
    go_ret
    unfold VisitPost
    rw [HM.out]
    exact ⟨HK.out.alloc _, rfl⟩
   ·have HVy := Lib.hid (show visitL L (ps.take (k + 1)) = some (M ++ [x]) by rw [HVn.out, if_neg hm])
    have hT3 : decide (x ∈ M) = false := decide_eq_false hm
    clear hm hca
    have hca : wr.cell? (ad.add k) = some (.int .u32 (x : Int)) := HCa.out
    go_upto_region 7 with (at_lookup; refine wpList_lookup_own_unit _ rfl _ _ 91 rfl 23 185 (Maps.int_keyed Tryz.underlying23) Tryz.underlying91 (Tryz.zeroValue185 _) bm M.length _ rfl hown _ _ rfl hkey ?_; rw [HT2.out, hT3])
    clear v2 hown hca
    obtain ⟨wa, hwa⟩ : ∃ y, y = wr.alloc (.cells #[] 185) := ⟨_, rfl⟩
    have Va := Lib.hid (show Vis wa bv bm sz img M V' by rw [hwa]; exact HV'.out.below ((Below.refl _ _).alloc (Nat.le_refl _) _))
    have Ka := Lib.hid (show Kept (FV bv bm V) w wa by rw [hwa]; exact HK.out.alloc _)
    rw [← hwa]
    clear hwa HV' HK
    have v2 := Va.out.blk.cell 2
    simp at v2
    have hown := Va.out.map
    have hk9 : M.length < maxLen := by unfold maxLen; omega
    go_upto_region 8 with (at_mapUpdate; refine wpList_mapUpdate_own _ rfl _ _ _ 91 rfl 23 185 (Maps.int_keyed Tryz.underlying23) Tryz.underlying91 (unitElem (H := Unit)) bm M.length _ rfl hown hk9 _ _ _ rfl rfl hkey _ [] unitElem_mk ?_; intro w5 hown5 hgrow5)
    clear v2 hown hkey hk9
    have hne := Va.out.ne
    have B5 := Lib.hid (Va.out.blk.grown hgrow5 (fun e => hne.1 (by injection e with e; exact e.symm)))
    have R5 := Lib.hid (Va.out.row.kept hgrow5 (.inr hne.2.2))
    have K5 := Lib.hid (Ka.out.grown hgrow5 (fun k e => by cases e; exact .inl (.inr (.inl rfl))))
    have M5 := Lib.hid (show w5.ownsMap Tryz.prog 23 (unitElem (H := Unit)) bm (M ++ [x]).length (Maps.setOf (.agg []) (keysU (M ++ [x]))) by
     have : Maps.setOf (H := Unit) (.agg []) (keysU (M ++ [x])) = (Maps.setOf (.agg []) (keysU M)).put (.int .u32 x) (.agg []) := by
      unfold keysU
      rw [List.map_append, List.map_cons, List.map_nil, Maps.setOf_snoc]
     rw [this, List.length_append]
     exact hown5)
    have HNe := Lib.hid hne
    clear hown5 hgrow5 Va Ka hne
    obtain ⟨A', c', hV', hc1, hc2, _⟩ := own_form R5.out
    subst hV'
    have b3 := B5.out.cell 3
    simp at b3
    have RA := Lib.hid (R5.out.alloc (.cells #[.int .u32 x] 23))
    have HZ := Lib.hid (B5.out.lt)
    go_upto_region 9 with (at_builtin; refine wpList_append_any _ rfl (.tmp 35) (.tmp 37) _ rfl 0 23 i0 _ 1 4 Tryz.underlying31 hi0 hz0 hz1 hz2 rfl (by omega) _ M.length _ rfl RA.out (w5.heap.size + 1) (some ⟨w5.heap.size, 0, none⟩) 1 1 [.int .u32 x] rfl (reads_own (n := 1) (Blk.new _ _ _) rfl) (ucells_one [x]) (by unfold maxLen; omega) (by omega) (by omega) ?_; intro v6 w6 hown6 hg6 hat6; obtain ⟨A6, c6, hv6, _, _, _⟩ := own_form hown6; subst hv6; have b6 := (B5.out.alloc (.cells #[.int .u32 x] 23)).grown hg6 (fun e => HNe.out.2.1 e.symm); have f3 := b6.frozen 3; have c3 := b6.cell 3; simp at c3)
    have B6 := Lib.hid b6
    have R6 := Lib.hid hown6
    have G6 := Lib.hid hg6
    have HT6 := Lib.hid hat6
    clear b6 hown6 hg6 hat6 c3 f3 b3
    have HKn := Lib.hid (show Kept (FV bv bm V) w (w6.setCell ⟨bv, 3, none⟩ (.slice A6 (M.length + 1) c6)) from
     ((K5.out.alloc _).grown G6.out (fun g hg => (HG.out g hg).elim (fun h => .inl (.inr (.inr h))) .inr)).setCell (.inl (.inl rfl)) _)
    have HVn2 := Lib.hid (show Vis (w6.setCell ⟨bv, 3, none⟩ (.slice A6 (M.length + 1) c6)) bv bm sz img (M ++ [x]) (.slice A6 (M.length + 1) c6) from by
     have hb := B6.out.set_ 3 (.slice A6 (M.length + 1) c6)
     refine ⟨by simpa using hb, ?_, ?_⟩
     ·exact ((M5.out.alloc _).kept G6.out (fun e => HNe.out.2.2 e.symm)).kept (grown_setC _ _ _ _) (fun e => HNe.out.1 (by injection e))
     ·have h1 := R6.out
      rw [show ucells M ++ [Value.int IntKind.u32 ↑x] = ucells (M ++ [x]) by simp [ucells]] at h1
      rw [List.length_append]
      exact h1.kept (grown_setC _ _ _ _) (.inr fun e => own_ne_blk h1 B6.out (by decide) e))
    have HGn := Lib.hid (show ∀ g, (Value.slice A6 (M.length + 1) c6).ownBlock = some g → V.ownBlock = some g ∨ w.heap.size ≤ g from fun g hg => by
     rcases HT6.out with h | h
     ·rw [h] at hg
      exact HG.out g hg
     ·rw [h] at hg
      injection hg with hg
      have h1 := K5.out.size
      simp at hg
      right
      omega)
    clear B6 R6 G6 HT6 K5 M5 R5 B5 RA HG
    have hn9 : n ≤ 1000000 := by have := HN9.out; omega
    go_wp2_with fail
    go_roundw
    case rel =>
     exact ⟨k + 1, M ++ [x], _, by omega, by go_num, HVy, HVn2, HKn, HGn⟩
    case measure => simp [intOf]; omega
  ·have HE := Lib.hid (show visitL L ps = some M by have := HVs.out; rwa [List.take_of_length_le (by have := HLn.out; omega)] at this)
   go_wp2_with fail
   go_ret
   unfold VisitPost
   rw [HE.out]
   exact ⟨HK.out, rfl, V', HV'.out, HG.out⟩
end Go.Proofs.YtmmjckokjmpfpaaGreat

namespace Go.Proofs.YtmmjckokjmpfpaaGreat
open Go.RowKit
open Go.Lib

theorem fbody_ok (size : Nat) (A : Option Addr) (m c : Nat) (l : List UInt8) (w : World) (hg : goodSize size = true) (hr : Reads w w.heap.size 1 A m (bcells l)) (hm : m ≤ size - 24) :
  Calls Tryz.prog 147 #[.int .i64 size, .slice A m c] w fun e w' => e = .returned (.tuple #[.string ⟨(l ++ List.replicate (size - 24 - m) 0).toArray⟩, .int .i64 0]) ∧ Below w.heap.size w w' := by
 have hp := good_pos hg
 have hl : l.length = m := by have := hr.1; rw [bcells_length] at this; omega
 obtain ⟨r, hrm⟩ : ∃ r, r = size - 24 := ⟨_, rfl⟩
 have hR : ∀ w : World, Calls Tryz.prog 122 #[.int .i64 size] w fun e w' => e = .returned (.int .i64 (r : Int)) ∧ w' = w := fun w => by
  have := room_is size w hg
  rw [show (size : Int) - 24 = (r : Int) by omega] at this
  exact this
 have q : decide (r < m) = false := by simp; omega
 obtain ⟨i0, hi0, hz0, hz1, hz2⟩ := info_parts infoU8
 have hmk := run_make_bytes (P := Tryz.prog) 102 5 Tryz.underlying102 infoU8 r (by omega) w
 obtain ⟨w1, hw1⟩ : ∃ w1, w1 = w.alloc (.cells (madeCells #[.int .u8 0] r) 5) := ⟨_, rfl⟩
 rw [← hw1] at hmk
 have b1 : Blk w1 w.heap.size 5 (madeCells #[.int .u8 0] r) := by rw [hw1]; exact Blk.new _ _ _
 have hb1 : Below w.heap.size w w1 := by rw [hw1]; exact (Below.refl _ _).alloc (Nat.le_refl _) _
 have hr1 : Reads w1 w.heap.size 1 A m (bcells l) := hr.below hb1
 have hmc : (madeCells #[.int .u8 0] r).toList = List.replicate r (Value.int .u8 0) := toList_madeCells_one _ _
 obtain ⟨res, hres⟩ : ∃ res, res = l ++ List.replicate (r - m) (0 : UInt8) := ⟨_, rfl⟩
 rw [← hrm, ← hres]
 have hresl : res.length = r := by rw [hres, List.length_append, List.length_replicate]; omega
 obtain ⟨w2, hcp, hr2, hb2⟩ : ∃ w2, (Builtin.copy_ #[102, 102] 3 #[.slice (some ⟨w.heap.size, 0, none⟩) r r, .slice A m c]).run Tryz.prog w1 = .ok (.int .i64 (m : Int)) w2 ∧ Reads w2 w2.heap.size 1 (some ⟨w.heap.size, 0, none⟩) r (bcells res) ∧ Below w.heap.size w w2 := by
  rcases Nat.eq_zero_or_pos m with h0 | h0
  ·subst h0
   have hl0 : l = [] := List.eq_nil_of_length_eq_zero hl
   subst hl0
   have hcp := run_copy_none (P := Tryz.prog) w1 102 102 3 5 (some ⟨w.heap.size, 0, none⟩) A r r 0 c Tryz.underlying102 (by rw [hi0]; simp [hz1]) (Nat.zero_min r)
   refine ⟨w1, hcp, ?_, hb1⟩
   rw [hres, hw1, List.nil_append, Nat.sub_zero]
   have h3 := (MRow.of_made w 5 r).reads
   rw [List.length_replicate] at h3
   exact h3
  ·obtain ⟨ad, rfl, hab, hat⟩ := hr1.2 h0
   have hcp := run_copy_row (P := Tryz.prog) w1 102 102 3 5 w.heap.size 0 r r ad m c (madeCells #[.int .u8 0] r) 5 (bcells l) Tryz.underlying102 (by rw [hi0]; simp [hz1]) b1
    (by rw [bcells_length, hl]; exact (Nat.min_eq_left (by omega)).symm) hat (by rw [size_madeCells, bcells_length]; omega) (bcells_one l)
   rw [bcells_length, hl] at hcp
   refine ⟨_, hcp, ?_, below_setRow hb1 (Nat.le_refl _) _⟩
   have h3 : ((madeCells #[.int .u8 0] r).toList.take 0 ++ bcells l ++ (madeCells #[.int .u8 0] r).toList.drop (0 + m)) = bcells res := by
    rw [hmc, hres, bcells_append]
    simp [bcells]
   rw [h3]
   have hblk := setRow_heap w1 w.heap.size _ (bcells res).toArray _ _ b1
   refine ⟨by rw [bcells_length, hresl, Nat.mul_one], fun _ => ⟨_, rfl, (by have := b1.lt; rw [setRow_size]; exact this), fun j u hu => ?_⟩⟩
   have e : (⟨w.heap.size, 0, none⟩ : Addr).add j = ⟨w.heap.size, j, none⟩ := by unfold Addr.add; split <;> simp_all
   rw [e, cell_of_row _ _ j _ _ _ hblk]
   simpa using hu
 have hcv := run_string_reads w2 102 9 5 r Tryz.underlying102 Tryz.underlying5 Tryz.underlying9 hr2
 clear hr hm hp hl hrm hi0 hz0 hz1 hz2 b1 hb1 hr1 hmc hres hresl hr2 hw1
 go_enter Tryz.func147, Tryz.ntmps147
 go_wp2_with fail
 refine (dgood_is size _ _ hg).mono ?_
 rintro e w' ⟨rfl, rfl⟩
 go_wp2_with fail
 refine (hR _).mono ?_
 rintro e w' ⟨rfl, rfl⟩
 go_wp2_with fail
 refine (hR _).mono ?_
 rintro e w' ⟨rfl, rfl⟩
 go_wp2_with fail
 go_ret2
 exact ⟨rfl, hb2⟩
end Go.Proofs.YtmmjckokjmpfpaaGreat

namespace Go.Proofs.YtmmjckokjmpfpaaGreat
open Go.RowKit
open Go.Lib

theorem fread_bad (size : Int) (s : ByteArray) (n : Nat) (w : World) (hg : goodSize size = false) :
  Calls Tryz.prog 98 #[.int .i64 size, .string s, .int .u32 n] w fun e w' => e = .returned (.tuple #[.agg #[.int .i64 0, .int .i64 0, .int .u32 0, .int .u32 0, .int .u64 0, .string ByteArray.empty], .int .i64 2]) ∧ Below w.heap.size w w' := by
 obtain ⟨hz, hi⟩ := zero_of_info infoPg
 have HI := Lib.hid hi
 clear hi
 obtain ⟨w0, hw0⟩ : ∃ w0, w0 = w.alloc (.cells #[.int .i64 0, .int .i64 0, .int .u32 0, .int .u32 0, .int .u64 0, .string ByteArray.empty] 41) := ⟨_, rfl⟩
 have R0 := Lib.hid (show Blk w0 w.heap.size 41 #[.int .i64 0, .int .i64 0, .int .u32 0, .int .u32 0, .int .u64 0, .string ByteArray.empty] by rw [hw0]; exact Blk.new _ _ _)
 have HB0 := Lib.hid (show Below w.heap.size w w0 by rw [hw0]; exact (Below.refl _ _).alloc (Nat.le_refl _) _)
 go_enter Tryz.func98, Tryz.ntmps98
 go_wp2_with fail
 rw [← hw0]
 clear hw0
 refine (dgood_is size _ _ hg).mono ?_
 rintro e w' ⟨rfl, rfl⟩
 have k0 := R0.out.cell 0
 have k1 := R0.out.cell 1
 have k2 := R0.out.cell 2
 have k3 := R0.out.cell 3
 have k4 := R0.out.cell 4
 have k5 := R0.out.cell 5
 have f0 := R0.out.frozen 0
 have f1 := R0.out.frozen 1
 have f2 := R0.out.frozen 2
 have f3 := R0.out.frozen 3
 have f4 := R0.out.frozen 4
 have f5 := R0.out.frozen 5
 simp at k0 k1 k2 k3 k4 k5
 go_wp2_with fail
 refine bodyPost_ret (read_row rfl _ _ _ w.heap.size #[.int .i64 0, .int .i64 0, .int .u32 0, .int .u32 0, .int .u64 0, .string ByteArray.empty] rfl (load_page (six_at R0.out))) rfl ⟨rfl, six_below HB0.out (Nat.le_refl _)⟩
theorem fread_none (size n : Nat) (s : ByteArray) (w : World) (hg : goodSize size = true) (hs : s.size ≤ maxLen) (hn : ¬ n < s.size / size) (hn2 : n < 4294967296) :
  Calls Tryz.prog 98 #[.int .i64 size, .string s, .int .u32 n] w fun e w' => e = .returned (.tuple #[.agg #[.int .i64 0, .int .i64 0, .int .u32 0, .int .u32 0, .int .u64 0, .string ByteArray.empty], .int .i64 5]) ∧ Below w.heap.size w w' := by
 obtain ⟨hz, hi⟩ := zero_of_info infoPg
 have HI := Lib.hid hi
 clear hi
 obtain ⟨w0, hw0⟩ : ∃ w0, w0 = w.alloc (.cells #[.int .i64 0, .int .i64 0, .int .u32 0, .int .u32 0, .int .u64 0, .string ByteArray.empty] 41) := ⟨_, rfl⟩
 have R0 := Lib.hid (show Blk w0 w.heap.size 41 #[.int .i64 0, .int .i64 0, .int .u32 0, .int .u32 0, .int .u64 0, .string ByteArray.empty] by rw [hw0]; exact Blk.new _ _ _)
 have HB0 := Lib.hid (show Below w.heap.size w w0 by rw [hw0]; exact (Below.refl _ _).alloc (Nat.le_refl _) _)
 have HA := fun w => at_no size n s w hg hs hn hn2
 clear hs hn hn2
 go_enter Tryz.func98, Tryz.ntmps98
 go_wp2_with fail
 rw [← hw0]
 clear hw0
 refine (dgood_is size _ _ hg).mono ?_
 rintro e w' ⟨rfl, rfl⟩
 go_wp2_with fail
 refine (HA _).mono ?_
 rintro e w' ⟨rfl, rfl⟩
 have k0 := R0.out.cell 0
 have k1 := R0.out.cell 1
 have k2 := R0.out.cell 2
 have k3 := R0.out.cell 3
 have k4 := R0.out.cell 4
 have k5 := R0.out.cell 5
 have f0 := R0.out.frozen 0
 have f1 := R0.out.frozen 1
 have f2 := R0.out.frozen 2
 have f3 := R0.out.frozen 3
 have f4 := R0.out.frozen 4
 have f5 := R0.out.frozen 5
 simp at k0 k1 k2 k3 k4 k5
 go_wp2_with fail
 refine bodyPost_ret (read_row rfl _ _ _ w.heap.size #[.int .i64 0, .int .i64 0, .int .u32 0, .int .u32 0, .int .u64 0, .string ByteArray.empty] rfl (load_page (six_at R0.out))) rfl ⟨rfl, six_below HB0.out (Nat.le_refl _)⟩
theorem fread_get (size n : Nat) (s : ByteArray) (a0 a1 : Int) (a2 a3 a4 : Nat) (a5 : ByteArray) (err : Int) (w : World) (hg : goodSize size = true) (hs : s.size ≤ maxLen) (hn : n < s.size / size)
  (hget : ∀ w : World, Calls Tryz.prog 116 #[.int .i64 size, .int .u32 n, .string (s.extract (n * size) (n * size + size))] w fun e w' => e = .returned (.tuple #[.agg #[.int .i64 a0, .int .i64 a1, .int .u32 a2, .int .u32 a3, .int .u64 a4, .string a5], .int .i64 err]) ∧ Below w.heap.size w w') :
  Calls Tryz.prog 98 #[.int .i64 size, .string s, .int .u32 n] w fun e w' => e = .returned (.tuple #[.agg #[.int .i64 a0, .int .i64 a1, .int .u32 a2, .int .u32 a3, .int .u64 a4, .string a5], .int .i64 err]) ∧ Below w.heap.size w w' := by
 obtain ⟨hz, hi⟩ := zero_of_info infoPg
 have HI := Lib.hid hi
 clear hi
 obtain ⟨w0, hw0⟩ : ∃ w0, w0 = w.alloc (.cells #[.int .i64 0, .int .i64 0, .int .u32 0, .int .u32 0, .int .u64 0, .string ByteArray.empty] 41) := ⟨_, rfl⟩
 have R0 := Lib.hid (show Blk w0 w.heap.size 41 #[.int .i64 0, .int .i64 0, .int .u32 0, .int .u32 0, .int .u64 0, .string ByteArray.empty] by rw [hw0]; exact Blk.new _ _ _)
 have HB0 := Lib.hid (show Below w.heap.size w w0 by rw [hw0]; exact (Below.refl _ _).alloc (Nat.le_refl _) _)
 have HA := fun w => at_yes size n s w hg hs hn
 obtain ⟨b, hb⟩ : ∃ b, b = s.extract (n * size) (n * size + size) := ⟨_, rfl⟩
 rw [← hb] at HA hget
 clear hb hs hn
 go_enter Tryz.func98, Tryz.ntmps98
 go_wp2_with fail
 rw [← hw0]
 clear hw0
 refine (dgood_is size _ _ hg).mono ?_
 rintro e w' ⟨rfl, rfl⟩
 go_wp2_with fail
 refine (HA _).mono ?_
 rintro e w' ⟨rfl, rfl⟩
 go_wp2_with fail
 refine (hget _).mono ?_
 rintro e w1 ⟨rfl, hb1⟩
 replace HB0 := Lib.hid (HB0.out.trans (hb1.mono HB0.out.size))
 replace R0 := Lib.hid (R0.out.below hb1 R0.out.lt)
 clear hb1
 have k0 := R0.out.cell 0
 have k1 := R0.out.cell 1
 have k2 := R0.out.cell 2
 have k3 := R0.out.cell 3
 have k4 := R0.out.cell 4
 have k5 := R0.out.cell 5
 have f0 := R0.out.frozen 0
 have f1 := R0.out.frozen 1
 have f2 := R0.out.frozen 2
 have f3 := R0.out.frozen 3
 have f4 := R0.out.frozen 4
 have f5 := R0.out.frozen 5
 simp at k0 k1 k2 k3 k4 k5
 go_wp2_with fail
 refine bodyPost_ret (read_row rfl _ _ _ w.heap.size #[.int .i64 a0, .int .i64 a1, .int .u32 a2, .int .u32 a3, .int .u64 a4, .string a5] rfl (load_page (six_at R0.out))) rfl ⟨rfl, six_below HB0.out (Nat.le_refl _)⟩

end Go.Proofs.YtmmjckokjmpfpaaGreat

namespace Go.Proofs.YtmmjckokjmpfpaaGreat
open Go.RowKit
open Go.Lib

end Go.Proofs.YtmmjckokjmpfpaaGreat

