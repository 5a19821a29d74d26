/-
  over.Parts: the iterator's contract, and the statements' parts, which ranges over it. 
-/
import Derived.RangeFuncNested
import Derived.RangeFuncBound
import Derived.RangeFuncCalls
import Derived.RangeFuncLeaves
import Derived.RangeFuncBox
import Derived.Shelf.Abstract
import Derived.Shelf.RegionOpen
import Derived.WalkKit
import Derived.OwnWalkIn
import Derived.TacticsInMore
import Derived.LoopNIn
import Derived.LoopIn
import Derived.Maps.AppendAt
import Derived.Lib.MinMax
import Derived.Lib.Hide
import Derived.Test.YtihhchncglnbiaaOv
import Derived.Test.YtihhchncglnbiaaFrame
import Derived.Test.YtihhchncglnbiaaOwnW
import Derived.Test.YtihhchncglnbiaaBytes
import Derived.Test.YtihhchncglnbiaaStrClone
namespace Go.Proofs.Ytihhchncglnbiaa
open Go.RowKit Go.Shelf

set_option linter.unusedVariables false
set_option linter.unusedSimpArgs false
attribute [local go_sem] Oper.semAt_some

theorem ext_drop (t : ByteArray) (k : Nat) : (t.extract k t.size).data.toList = t.data.toList.drop k := by
  have h : t.data.size = t.data.toList.length := by simp
  rw [ByteArray.data_extract, Array.toList_extract, List.extract_eq_take_drop, List.take_of_length_le]
  rw [List.length_drop]
  show _ ≤ t.data.size - k
  omega
def strLen : Value → Nat
  | .string s => s.size
  | _ => 0
/-- The room of a page of this size, 0 where the size is not good. -/
def roomI (size : Int) : Int := if goodSize size then size - 24 else 0
theorem oroom_any (size : Int) (w : World) : Calls Try.prog 21 #[.int .i64 size] w fun e w' => e = .returned (.int .i64 (roomI size)) ∧ w' = w := by
  rcases hg : goodSize size with _ | _
  · exact (room_no size w hg).mono (by rintro e w' ⟨rfl, rfl⟩; exact ⟨by rw [roomI, hg]; rfl, rfl⟩)
  · exact (room_yes size w hg).mono (by rintro e w' ⟨rfl, rfl⟩; exact ⟨by rw [roomI, hg]; rfl, rfl⟩)
/-- What a round of the statement's loop keeps: blocks below n₀, and the iterator's box of the room. -/
def KpO (n₀ b1 : Nat) (r : Int) (W W' : World) : Prop := Below n₀ W W' ∧ (Boxed W b1 3 (.int .i64 r) → Boxed W' b1 3 (.int .i64 r))
theorem kpO_t {n₀ b1 : Nat} {r : Int} {A B C : World} (h : KpO n₀ b1 r A B) (k : KpO n₀ b1 r B C) : KpO n₀ b1 r A C := ⟨h.1.trans k.1, fun x => k.2 (h.2 x)⟩
theorem kpO_b {n₀ b1 : Nat} {r : Int} {w : World} (hn : n₀ ≤ w.heap.size) (W : World) (l : Nat) (o o' : Obj) (hl : w.heap.size ≤ l) (h : W.heap[l]? = some o) (hc : o.isCells = false) (hw : o.isWalk = false) : KpO n₀ b1 r W (W.putObj l o') :=
  ⟨belowK_b hn W l o o' hl h hc hw, fun x => x.kept (grownBy_putObj' W l o') (fun e => by
    cases e
    rw [show W.heap[b1]? = _ from x] at h
    injection h with h
    subst h
    cases hc)⟩
set_option maxRecDepth 100000 in
set_option maxHeartbeats 2000000 in
theorem oiter_in (n : Nat) (hn : 1 ≤ n) (l b1 b2 n₀ : Nat) (size : Int) (v : ByteArray) (hv9 : v.size ≤ 1000000) (J Jx : List ByteArray → World → Prop)
    (hJg : ∀ pre W W', J pre W → Below W.heap.size W W' → J pre W')
    (hY : ∀ pre x W, J pre W → pre.length < (partsL size v).length → YieldAt Fence.wide (n - 1) Try.prog l #[.string x] W fun e W' =>
      (e = .returned (.bool true) ∧ J (pre ++ [x]) W' ∧ KpO n₀ b1 (roomI size) W W') ∨ (e = .returned (.bool false) ∧ Jx (pre ++ [x]) W'))
    (W : World) (c1 : Boxed W b1 3 (.int .i64 (roomI size))) (c2 : W.cell? ⟨b2, 0, none⟩ = some (.string v)) (h0 : J [] W) :
    CallsIn Fence.wide n Try.prog 31 #[.func (.yield l) #[] #[], .pointer (some ⟨b1, 0, none⟩), .pointer (some ⟨b2, 0, none⟩)] W fun e W' => (∃ v, e = .returned v) ∧
      ((∃ ys, ys = partsL size v ∧ J ys W') ∨ (∃ pre, pre <+: partsL size v ∧ Jx pre W')) := by
  refine callsIn_of_wp Try.func31 rfl trivial ?_ rfl
  simp only [Try.ntmps31, List.size_toArray, List.length_cons, List.length_nil, Nat.reduceAdd, Nat.reduceSub, Array.replicate_succ, Array.replicate_zero, List.push_toArray, List.append_toArray, List.nil_append, List.cons_append]
  have cR := c1.cell
  rcases hg : goodSize size with _ | _
  · have hr0 : roomI size = 0 := by rw [roomI, hg]; rfl
    rw [hr0] at cR
    have HE := Lib.hid (show partsL size v = [] by rw [partsL, hg]; rfl)
    clear hg hr0 hY hJg
    gi_wp2
    refine bodyPost_ret (results_none rfl _ _ _) rfl ?_
    exact ⟨⟨_, rfl⟩, .inl ⟨[], HE.out.symm, h0⟩⟩
  · obtain ⟨z, rfl, hz1, hz2, _⟩ := good_nat hg
    obtain ⟨r, hr⟩ : ∃ r, r = z - 24 := ⟨_, rfl⟩
    have hri : roomI (z : Int) = (r : Int) := by rw [roomI, hg, if_pos rfl]; omega
    rw [hri] at hY c1 cR
    have HC := Lib.hid c1
    have hr0 : 0 < r := by omega
    have hr9 : r ≤ 4096 := by omega
    have hrb : ((r : Int) == 0) = false := by simp; omega
    have HE := Lib.hid (show partsL z v = chunks r v by rw [partsL, hg, if_pos rfl]; congr 1; omega)
    rw [HE.out] at hY ⊢
    have HY := Lib.hid hY
    have HJg := Lib.hid hJg
    clear hg hY hz1 hz2 hr hri c1 hJg
    gi_wp2
    clear cR c2
    gi_loopw [4, 5] (fun p _ wr => ∃ k : Nat, k ≤ ceilD v.size r ∧ p = .string (v.extract (k * r) v.size) ∧ Hid (J ((chunks r v).take k) wr) ∧ Hid (Boxed wr b1 3 (.int .i64 (r : Int)))) (fun p _ _ => strLen p)
    case atStart => exact ⟨0, Nat.zero_le _, by simp, Lib.hid (by simpa using h0), HC⟩
    case round =>
      obtain ⟨k, hk, rfl, HJ, HC'⟩ := hrel
      clear HC
      obtain ⟨R, hR⟩ : ∃ R, R = v.extract (k * r) v.size := ⟨_, rfl⟩
      have hRs : R.size = v.size - k * r := by rw [hR, ByteArray.size_extract]; omega
      rw [← hR]
      by_cases hlt : k < ceilD v.size r
      · have hkl := piece_lt hr0 hlt
        obtain ⟨q, hq⟩ : ∃ q, q = min R.size r := ⟨_, rfl⟩
        have hmin : min (r : Int) (R.size : Int) = (q : Int) := by omega
        have hemp : R.toList.isEmpty = false := by
          rw [Bool.eq_false_iff]
          intro h
          rw [List.isEmpty_iff_length_eq_zero, ByteArray.toList_eq, size_list] at h
          omega
        have hemp2 : ¬ R.toList = [] := fun h => by rw [h] at hemp; simp at hemp
        have hql : q ≤ R.size := by omega
        have hq0 : 0 < q := by omega
        have hp : R.extract 0 q = piece r v k := by
          apply bytes_ext
          rw [hR]
          unfold piece
          simp only [ByteArray.data_extract, Array.toList_extract, List.extract_eq_take_drop, List.drop_zero, Nat.sub_zero]
          rw [List.take_take]
          congr 1
          rw [Nat.add_mul, Nat.one_mul]
          omega
        have hnext : R.extract q R.size = v.extract ((k + 1) * r) v.size := by
          apply bytes_ext
          rw [hR]
          have e1 : (v.extract (k * r) v.size).data.toList = v.data.toList.drop (k * r) := ext_drop v (k * r)
          have e2 : (v.extract ((k + 1) * r) v.size).data.toList = v.data.toList.drop ((k + 1) * r) := ext_drop v ((k + 1) * r)
          have e3 : ((v.extract (k * r) v.size).extract q (v.extract (k * r) v.size).size).data.toList = ((v.extract (k * r) v.size).data.toList).drop q := ext_drop _ q
          rw [e3, e1, e2, List.drop_drop]
          by_cases hq2 : q = r
          · rw [hq2, Nat.add_mul, Nat.one_mul]
          · have hlen : v.data.toList.length = v.size := size_list v
            rw [List.drop_eq_nil_of_le (by omega), List.drop_eq_nil_of_le (by rw [Nat.add_mul, Nat.one_mul]; omega)]
        have htk : (chunks r v).take (k + 1) = (chunks r v).take k ++ [piece r v k] := by
          have : (chunks r v)[k]? = some (piece r v k) := by
            unfold chunks
            rw [List.getElem?_map, List.getElem?_range hlt]
            rfl
          obtain ⟨h1, h2⟩ := List.getElem?_eq_some_iff.1 this
          rw [List.take_succ_eq_append_getElem h1, h2]
        have HLen := Lib.hid (show ((chunks r v).take k).length < (chunks r v).length by rw [List.length_take, chunks_len]; omega)
        have HX9 := Lib.hid (show (R.extract 0 q).size ≤ 281474976710656 by rw [ByteArray.size_extract]; omega)
        have HN := Lib.hid hnext
        have HP := Lib.hid hp
        have HT := Lib.hid htk
        have HQ := Lib.hid hq
        have HRs := Lib.hid hRs
        have cR := HC'.out.cell
        clear hnext hp htk hq hR hkl hRs
        gi_wp2_with (refine ⟨trivial, ?_⟩; gi_at_call 24; refine (callsIn_wide.2 (sclone_any _ _ HX9.out)).mono ?_; rintro e W2 ⟨rfl, hb2⟩; have HJ2 := Lib.hid (HJg.out _ _ _ HJ.out hb2); have HC2 := Lib.hid (HC'.out.kept (grown_of_below hb2) (by simp)); clear hb2 cR; obtain ⟨fn, tmps, assign, body, hy, hRn⟩ := HY.out ((chunks r v).take k) (R.extract 0 q) W2 HJ2.out HLen.out)
        refine hRn.mono ?_
        rintro e W3 (⟨rfl, hJ3, hk3⟩ | ⟨rfl, hJx3⟩)
        · rw [HP.out, ← HT.out] at hJ3
          have HJ3 := Lib.hid hJ3
          have HC3 := Lib.hid (hk3.2 HC2.out)
          clear hJ3 hRn hy hk3
          gi_wp2
          go_roundw
          case rel =>
            first
              | exact ⟨k + 1, by omega, by rw [← HN.out], HJ3, HC3⟩
              | ((repeat apply Exists.intro); exact ⟨⟨k + 1, by omega, by rw [← HN.out], HJ3, HC3⟩, rfl⟩)
          case measure =>
            simp only [strLen]
            first
              | (rw [ByteArray.size_extract]; omega)
              | omega
        · rw [HP.out, ← HT.out] at hJx3
          gi_wp2
          refine bodyPost_ret (results_none rfl _ _ _) rfl ?_
          exact ⟨⟨_, rfl⟩, .inr ⟨_, List.take_prefix _ _, hJx3⟩⟩
      · have hkc : k = ceilD v.size r := by omega
        have hend := piece_end hr0 hlt
        have hemp : R.toList.isEmpty = true := by
          rw [List.isEmpty_iff_length_eq_zero, ByteArray.toList_eq, size_list]
          omega
        have hemp2 : R.toList = [] := List.isEmpty_iff.1 hemp
        have HT := Lib.hid (show (chunks r v).take k = chunks r v from List.take_of_length_le (by rw [chunks_len]; omega))
        clear hRs hR hend hkc hlt
        gi_wp2
        go_end0
        exact ⟨⟨_, rfl⟩, .inl ⟨_, rfl, by rw [← HT.out]; exact HJ.out⟩⟩
/-- over.Parts hands back a closure over the boxes of the room and of the value. -/
theorem omake_any (size : Int) (v : ByteArray) (w : World) :
    Calls Try.prog 25 #[.int .i64 size, .string v] w fun e w' => e = .returned (.func (.func 31) #[] #[.pointer (some ⟨w.heap.size + 1, 0, none⟩), .pointer (some ⟨w.heap.size, 0, none⟩)]) ∧ w' = (w.alloc (.cells #[.string v] 9)).alloc (.cells #[.int .i64 (roomI size)] 3) := by
  have hmf : ∀ (fn : Fn) (first cap : Array Value) (w : World), (Instr.makeFunc fn first cap).run Try.prog w = .ok (.func fn first cap) w := fun _ _ _ _ => rfl
  have HM := fun w => oroom_any size w
  go_enter Try.func25, Try.ntmps25
  go_wp2_with (go_at_call 21; refine (HM _).mono ?_; rintro e w' ⟨rfl, rfl⟩)
  go_ret
  exact ⟨rfl, rfl⟩
theorem oparts_stops (n : Nat) (hn : 1 ≤ n) (b1 b2 n₀ : Nat) (size : Int) (v : ByteArray) (hv9 : v.size ≤ 1000000) (w : World) (h1 : b1 < w.heap.size) (h2 : b2 < w.heap.size)
    (c1 : Boxed w b1 3 (.int .i64 (roomI size))) (c2 : w.cell? ⟨b2, 0, none⟩ = some (.string v)) :
    SeqStopsK Fence.wide n Try.prog 31 #[.pointer (some ⟨b1, 0, none⟩), .pointer (some ⟨b2, 0, none⟩)] (fun x : ByteArray => #[Value.string x]) (KpO n₀ b1 (roomI size)) (fun ys => ys = partsL size v) (fun pre => pre <+: partsL size v) (partsL size v).length w := fun l J Jx W hW hJ _ hY h0 =>
  oiter_in n hn l b1 b2 n₀ size v hv9 J Jx (fun pre W1 W2 hj hb => hJ pre W1 W2 none hj (grown_of_below hb) (fun r e => by cases e)) hY W ((hW.block b1 h1).trans c1) ((hW.cell (p := ⟨b2, 0, none⟩) h2).trans c2) h0
theorem infoStr : (Try.prog.info? 9).map (fun i => (i.zero, i.size, i.bytes)) = some (some (.string ByteArray.empty), 1, 16) := by kernel_rfl
theorem parts_le (size : Int) (v : ByteArray) : (partsL size v).length ≤ v.size := by
  unfold partsL
  split
  · rename_i hg
    obtain ⟨z, rfl, h1, _⟩ := good_nat hg
    rw [chunks_len]
    rcases Nat.lt_or_ge 0 (ceilD v.size ((z : Int) - 24).toNat) with h | h
    · have h2 := piece_lt (n := v.size) (r := ((z : Int) - 24).toNat) (i := ceilD v.size ((z : Int) - 24).toNat - 1) (by omega) (by omega)
      have h3 : (ceilD v.size ((z : Int) - 24).toNat - 1) * 1 ≤ (ceilD v.size ((z : Int) - 24).toNat - 1) * ((z : Int) - 24).toNat := Nat.mul_le_mul_left _ (by omega)
      omega
    · omega
  · simp
theorem results_cell_cell9 {P : Program} {fn : Func} {p q : Tmp} {ty tq : TypeId} (h : fn.results = #[.cell p ty, .cell q tq]) (tmps : Array Value) (w : World) (g g' : Nat) (u v : Value)
    (hp : tmps.getD p undef = .pointer (some ⟨g, 0, none⟩)) (hq : tmps.getD q undef = .pointer (some ⟨g', 0, none⟩)) (hu : (loadVar ty ⟨g, 0, none⟩).run P w = .ok u w) (hv : (loadVar tq ⟨g', 0, none⟩).run P w = .ok v w) :
    (results fn tmps).run P w = .ok (.tuple #[u, v]) w := by
  have hp' : tmps[p]?.getD undef = .pointer (some ⟨g, 0, none⟩) := by simpa using hp
  have hq' : tmps[q]?.getD undef = .pointer (some ⟨g', 0, none⟩) := by simpa using hq
  simp [results, h, hp', hq', asAddr, hu, hv]
theorem load_box9 {w : World} {g : Nat} {t : TypeId} {v : Value} (ht : t = 33 ∨ t = 4) (h : Boxed w g t v) : (loadVar t ⟨g, 0, none⟩).run Try.prog w = .ok v w := by
  have hc := h.cell
  rcases ht with rfl | rfl <;> simp [go_sem, hc]
set_option maxRecDepth 100000 in
set_option maxHeartbeats 4000000 in
theorem lparts_any (size : Int) (v : ByteArray) (w : World) (hv : v.size ≤ 1000000) :
    Calls Try.prog 12 #[.int .i64 size, .string v] w fun e w' => ∃ (V : Value) (base : Nat), e = .returned (.tuple #[V, .bool true]) ∧ w.heap.size ≤ base ∧ w'.ownsRow base 9 1 V (partsL size v).length ((partsL size v).map Value.string) ∧ Below w.heap.size w w' := by
  have hple := parts_le size v
  obtain ⟨i0, hi, hz0, hz1, hz2⟩ := info_parts infoStr
  have hfe : ∀ (g : Fn) (a b : Array Value) (W : World), (binOp .eql 50 (.func g a b) .nilFunc).run Try.prog W = .ok (.bool false) W := fun _ _ _ _ => rfl
  refine (callsIn_wide (n := 5)).1 ?_
  refine callsIn_of_wp_marks Try.func12 rfl trivial ?_ rfl
  simp only [Try.ntmps12, List.size_toArray, List.length_cons, List.length_nil, Nat.reduceAdd, Nat.reduceSub, Array.replicate_succ, Array.replicate_zero, List.push_toArray, List.append_toArray, List.nil_append, List.cons_append]
  gi_wp2_with (refine ⟨trivial, ?_⟩; gi_at_call 25; refine (callsIn_wide.2 (omake_any size v _)).mono ?_; rintro e w' ⟨rfl, rfl⟩)
  obtain ⟨H, hH⟩ : ∃ H, H = w.heap.size := ⟨_, rfl⟩
  obtain ⟨W0, hW0⟩ : ∃ W0, W0 = ((((((w.alloc (.cells #[.string v] 9)).alloc (.cells #[.slice none 0 0] 33)).alloc (.cells #[.bool false] 4)).alloc (.cells #[.string v] 9)).alloc (.cells #[.int .i64 (roomI size)] 3)).alloc (.cells #[.slice none 0 0] 33)) := ⟨_, rfl⟩
  have hsz : W0.heap.size = H + 6 := by rw [hW0, hH]; simp
  have bV : Boxed W0 H 9 (.string v) := by rw [hW0, hH]; exact (((((Boxed.new w _ _).alloc _).alloc _).alloc _).alloc _).alloc _
  have bR : Boxed W0 (H + 1) 33 (.slice none 0 0) := by
    rw [hW0, hH]
    have := ((((Boxed.new (w.alloc (.cells #[.string v] 9)) 33 (.slice none 0 0)).alloc (.cells #[.bool false] 4)).alloc (.cells #[.string v] 9)).alloc (.cells #[.int .i64 (roomI size)] 3)).alloc (.cells #[.slice none 0 0] 33)
    simpa using this
  have bK : Boxed W0 (H + 1 + 1) 4 (.bool false) := by
    rw [hW0, hH]
    have := (((Boxed.new ((w.alloc (.cells #[.string v] 9)).alloc (.cells #[.slice none 0 0] 33)) 4 (.bool false)).alloc (.cells #[.string v] 9)).alloc (.cells #[.int .i64 (roomI size)] 3)).alloc (.cells #[.slice none 0 0] 33)
    simpa using this
  have bW : Boxed W0 (H + 1 + 1 + 1) 9 (.string v) := by
    rw [hW0, hH]
    have := ((Boxed.new (((w.alloc (.cells #[.string v] 9)).alloc (.cells #[.slice none 0 0] 33)).alloc (.cells #[.bool false] 4)) 9 (.string v)).alloc (.cells #[.int .i64 (roomI size)] 3)).alloc (.cells #[.slice none 0 0] 33)
    simpa using this
  have bS : Boxed W0 (H + 1 + 1 + 1 + 1) 3 (.int .i64 (roomI size)) := by
    rw [hW0, hH]
    have := (Boxed.new ((((w.alloc (.cells #[.string v] 9)).alloc (.cells #[.slice none 0 0] 33)).alloc (.cells #[.bool false] 4)).alloc (.cells #[.string v] 9)) 3 (.int .i64 (roomI size))).alloc (.cells #[.slice none 0 0] 33)
    simpa using this
  have bO : Boxed W0 (H + 1 + 1 + 1 + 1 + 1) 33 (.slice none 0 0) := by
    rw [hW0, hH]
    have := Boxed.new (((((w.alloc (.cells #[.string v] 9)).alloc (.cells #[.slice none 0 0] 33)).alloc (.cells #[.bool false] 4)).alloc (.cells #[.string v] 9)).alloc (.cells #[.int .i64 (roomI size)] 3)) 33 (.slice none 0 0)
    simpa using this
  have hB0 : Below H w W0 := by
    rw [hW0, hH]
    exact ((((((Below.refl _ w).alloc (Nat.le_refl _) _).alloc (by simp) _).alloc (by simp; omega) _).alloc (by simp; omega) _).alloc (by simp; omega) _).alloc (by simp; omega) _
  rw [← hW0]
  rw [← hH]
  have hHle : H ≤ w.heap.size := by omega
  have HH := Lib.hid hH
  have h6 : H + 6 ≤ W0.heap.size := by omega
  clear hW0 hH hsz
  refine wpIn_rangeFunc_ownG (F := Fence.wide) rfl (by decide) (gf := 31) (lb := #[.pointer (some ⟨H + 1 + 1 + 1 + 1, 0, none⟩), .pointer (some ⟨H + 1 + 1 + 1, 0, none⟩)]) rfl trivial (enters_of Try.func31 (by kernel_rfl) rfl)
    (oparts_stops (5 - 1) (by decide) (H + 1 + 1 + 1 + 1) (H + 1 + 1 + 1) (H + 1) size v hv W0 (by omega) (by omega) bS bW.cell) kpO_t (kpO_b (by omega)) (Below.refl _ _) (fun _ => rfl)
    (fun pre W => (∃ V, Boxed W (H + 1 + 1 + 1 + 1 + 1) 33 V ∧ W.ownsRow (H + 1) 9 1 V pre.length (pre.map Value.string) ∧ True) ∧ (Boxed W H 9 (.string v) ∧ (Boxed W (H + 1) 33 (.slice none 0 0) ∧ (Boxed W (H + 1 + 1) 4 (.bool false) ∧ Below H w W))))
    (fun _ _ _ => False)
    (OwnFrom.and (Own.from (holdsRow_own (H + 1) (H + 1 + 1 + 1 + 1 + 1) 33 9 1 (fun pre : List ByteArray => pre.length) (fun pre : List ByteArray => pre.map Value.string) (fun _ _ => True)) _) (OwnFrom.and (Own.from (boxed_own _ _ (fun _ => .string v)) _) (OwnFrom.and (Own.from (boxed_own _ _ (fun _ => .slice none 0 0)) _) (OwnFrom.and (Own.from (boxed_own _ _ (fun _ => .bool false)) _) (ownFrom_below (by omega) (by omega))))))
    (fun _ _ _ _ _ hs _ _ => hs)
    ⟨⟨_, bO, World.ownsRow_nil _ _ _ _, trivial⟩, bV, bR, bK, hB0⟩
    (fun x => { tmps := #[.int .i64 size, .string v, undef, .pointer (some ⟨H, 0, none⟩), .pointer (some ⟨H + 1, 0, none⟩), .pointer (some ⟨H + 1 + 1, 0, none⟩), .func (.func 31) #[] #[.pointer (some ⟨H + 1 + 1 + 1 + 1, 0, none⟩), .pointer (some ⟨H + 1 + 1 + 1, 0, none⟩)], .pointer (some ⟨H + 1 + 1 + 1 + 1 + 1, 0, none⟩), .string x, .int .i64 size, .string v, .func (.func 31) #[] #[.pointer (some ⟨H + 1 + 1 + 1 + 1, 0, none⟩), .pointer (some ⟨H + 1 + 1 + 1, 0, none⟩)], .func (.func 31) #[] #[.pointer (some ⟨H + 1 + 1 + 1 + 1, 0, none⟩), .pointer (some ⟨H + 1 + 1 + 1, 0, none⟩)], .bool false, .func (.func 31) #[] #[.pointer (some ⟨H + 1 + 1 + 1 + 1, 0, none⟩), .pointer (some ⟨H + 1 + 1 + 1, 0, none⟩)], .string x, undef, undef, undef, undef, undef, undef, undef, undef, undef, undef], defers := [] }) ?assign ?body ?done ?stop
  case assign =>
    intro l x W K hK
    gi_wp2
    exact hK
  case body =>
    rintro l pre x W ⟨⟨V, hv, hrow, _⟩, hbV, hbR, hbK, hB⟩ hlt
    have hcO := hv.cell
    have hcV := hbV.cell
    have hgt : ¬ (v.size : Int) < (pre.length : Int) := by omega
    have hl0 : pre.length + 1 ≤ v.size := by omega
    obtain ⟨AV, cV, rfl, _, _, _⟩ := own_form hrow
    gi_wp2_with (gi_at_builtin; refine wpListIn_append_own _ rfl _ _ 33 rfl (H + 1) 9 i0 (.string ByteArray.empty) 1 16 Try.underlying33 hi hz0 hz1 hz2 rfl (by decide) _ _ _ rfl (hrow.alloc _) ⟨W.heap.size, 0, none⟩ 1 1 [.string x] rfl rfl (cell_one_new _ _ _) (by simp [Value.oneCell']) (by unfold maxLen; omega) (by omega) (by have := hB.size; have := hbR.lt; simp; omega) ?_; intro v' w1 hown' hgrow _; obtain ⟨g', cap', rfl⟩ := ownsRow_succ hown'; obtain ⟨hv1, hv2, hr2, hk2, hb2⟩ := hv.appended (by decide) hrow (Nat.le_of_lt hbR.lt) (by omega) hown' hgrow; have hc1 := hv1.cell; have hf1 := hv1.frozen)
    have kV := ((hbV.alloc (.cells #[.string x] 9)).kept hgrow (own_ne hrow (Nat.lt_succ_self H))).other (B' := H + 1 + 1 + 1 + 1 + 1) (by omega) (.slice (some ⟨g', 0, none⟩) (pre.length + 1) cap')
    have kR := ((hbR.alloc (.cells #[.string x] 9)).kept hgrow (hbR.not_row (by decide) hrow)).other (B' := H + 1 + 1 + 1 + 1 + 1) (by omega) (.slice (some ⟨g', 0, none⟩) (pre.length + 1) cap')
    have kK := ((hbK.alloc (.cells #[.string x] 9)).kept hgrow (hbK.not_row (by decide) hrow)).other (B' := H + 1 + 1 + 1 + 1 + 1) (by omega) (.slice (some ⟨g', 0, none⟩) (pre.length + 1) cap')
    have kI := fun (xb : Boxed W (H + 1 + 1 + 1 + 1) 3 (.int .i64 (roomI size))) => ((xb.alloc (.cells #[.string x] 9)).kept hgrow (xb.not_row (by decide) hrow)).other (B' := H + 1 + 1 + 1 + 1 + 1) (by omega) (.slice (some ⟨g', 0, none⟩) (pre.length + 1) cap')
    exact ⟨hk2.from _, ⟨hb2, kI⟩, ⟨⟨_, hv2, by simpa using hr2⟩, kV, kR, kK, hB.trans (hb2.mono (Nat.le_succ H))⟩⟩
  case done =>
    rintro D ys W hD rfl ⟨⟨V, hv, hrow, _⟩, hbV, hbR, hbK, hB⟩ hK
    have hcO := hv.cell
    have hcR := hbR.cell
    have hcK := hbK.cell
    have hfR := hbR.frozen
    have hfK := hbK.frozen
    obtain ⟨AV, cV, rfl, _, _, _⟩ := own_form hrow
    have hbK2 := hbK.other (B' := H + 1) (by omega) (.slice AV (partsL size v).length cV)
    have hcK2 := hbK2.cell
    have hfK2 := hbK2.frozen
    gi_wp2
    obtain ⟨V, hV⟩ : ∃ V, V = Value.slice AV (partsL size v).length cV := ⟨_, rfl⟩
    rw [← hV] at hv hrow hbK2 ⊢
    clear hV hcO hcR hcK hfR hfK hcK2 hfK2
    obtain ⟨W2, hW2⟩ : ∃ W2, W2 = (W.setCell ⟨H + 1, 0, none⟩ V).setCell ⟨H + 1 + 1, 0, none⟩ (.bool true) := ⟨_, rfl⟩
    have hK2 : W2.heap[D]? = some (.deferred (some [])) := by
      rw [hW2]
      exact ((KeepsOthers.setCell W _ _).trans (KeepsOthers.setCell _ _ _)).same D _ hK rfl
    have bR2 : Boxed W2 (H + 1) 33 V := by rw [hW2]; exact (hbR.set V).other (by omega) _
    have bK2 : Boxed W2 (H + 1 + 1) 4 (.bool true) := by rw [hW2]; exact hbK2.set _
    have hr1 := hrow.kept (grownBy_setCell' W (H + 1) V) (.inr (fun e => hbR.not_row (by decide) hrow e.symm))
    have hr2 : W2.ownsRow (H + 1) 9 1 V (partsL size v).length ((partsL size v).map Value.string) := by
      rw [hW2]
      exact hr1.kept (grownBy_setCell' _ (H + 1 + 1) _) (.inr (fun e => hbK2.not_row (by decide) hr1 e.symm))
    have hB2 : Below H w W2 := by
      rw [hW2]
      exact (hB.setCell (p := ⟨H + 1, 0, none⟩) (Nat.le_succ H) V).setCell (p := ⟨H + 1 + 1, 0, none⟩) (show H ≤ H + 1 + 1 by omega) (.bool true)
    rw [← hW2]
    clear hW2
    refine ⟨by simp, .inl ⟨_, _, rfl, run_takeDeferred hK2, ?_⟩⟩
    have bR3 := bR2.kept (grownBy_putObj' W2 D (.deferred none)) (by intro h; injection h with h; omega)
    have bK3 := bK2.kept (grownBy_putObj' W2 D (.deferred none)) (by intro h; injection h with h; omega)
    refine ⟨_, results_cell_cell9 rfl _ _ (H + 1) (H + 1 + 1) V (.bool true) rfl rfl (load_box9 (.inl rfl) bR3) (load_box9 (.inr rfl) bK3), V, H + 1, rfl, by rw [HH.out]; exact Nat.le_succ _, ownsRow_putObj hr2 _ hK2 rfl, ?_⟩
    have h := hB2.trans (belowK_b (w := w) hHle W2 D _ (.deferred none) (by have := HH.out; omega) hK2 rfl rfl)
    rwa [HH.out] at h
  case stop =>
    rintro D c pre W _ _ h _
    exact h.elim
end Go.Proofs.Ytihhchncglnbiaa
