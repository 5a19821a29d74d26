/-
  Texts that the main proof rests on, put together: OvIter, ChColl, Shelf3. No statement is proved here.
-/
import Derived.RangeFuncNested
import Derived.RangeFuncBound
import Derived.RangeFuncCalls
import Derived.RangeFuncLeaves
import Derived.RangeFuncBox
import Derived.Shelf.Abstract
import Derived.Shelf.RegionOpen
import Derived.WalkKit
import Derived.OwnWalkIn
import Derived.TacticsInMore
import Derived.LoopNIn
import Derived.LoopIn
import Derived.Maps.AppendAt
import Derived.Lib.MinMax
import Derived.Lib.Hide
import Derived.Test.YtabhhccdbfjigaaJ16
import Derived.Test.YtabhhccdbfjigaaJ5
import Derived.Test.YtabhhccdbfjigaaJ11
import Derived.Test.YtabhhccdbfjigaaJ7
import Derived.Shelf.Small.Bits
import Derived.Shelf.Strconv.Itoa0
import Derived.Shelf.Strconv.Clone
import Derived.Test.YtabhhccdbfjigaaProg
import Derived.Shelf.Strings.BuilderK
namespace Go.Proofs.Ytabhhccdbfjigaa
open Go.RowKit Go.Shelf

set_option linter.unusedVariables false
set_option linter.unusedSimpArgs false
attribute [local go_sem] Oper.semAt_some

theorem ext_drop (t : ByteArray) (k : Nat) : (t.extract k t.size).data.toList = t.data.toList.drop k := by
  have h : t.data.size = t.data.toList.length := by simp
  rw [ByteArray.data_extract, Array.toList_extract, List.extract_eq_take_drop, List.take_of_length_le]
  rw [List.length_drop]
  show _ ≤ t.data.size - k
  omega
def strLen : Value → Nat
  | .string s => s.size
  | _ => 0
/-- The room of a page of this size, 0 where the size is not good. -/
def roomI (size : Int) : Int := if goodSize size then size - 24 else 0
theorem oroom_any (size : Int) (w : World) : Calls Try.prog 61 #[.int .i64 size] w fun e w' => e = .returned (.int .i64 (roomI size)) ∧ w' = w := by
  rcases hg : goodSize size with _ | _
  · exact (room_no size w hg).mono (by rintro e w' ⟨rfl, rfl⟩; exact ⟨by rw [roomI, hg]; rfl, rfl⟩)
  · exact (room_yes size w hg).mono (by rintro e w' ⟨rfl, rfl⟩; exact ⟨by rw [roomI, hg]; rfl, rfl⟩)
/-- What a round of the statement's loop keeps: blocks below n₀, and the iterator's box of the room. -/
def KpO (n₀ b1 : Nat) (r : Int) (W W' : World) : Prop := Below n₀ W W' ∧ (Boxed W b1 3 (.int .i64 r) → Boxed W' b1 3 (.int .i64 r))
theorem kpO_t {n₀ b1 : Nat} {r : Int} {A B C : World} (h : KpO n₀ b1 r A B) (k : KpO n₀ b1 r B C) : KpO n₀ b1 r A C := ⟨h.1.trans k.1, fun x => k.2 (h.2 x)⟩
theorem kpO_b {n₀ b1 : Nat} {r : Int} {w : World} (hn : n₀ ≤ w.heap.size) (W : World) (l : Nat) (o o' : Obj) (hl : w.heap.size ≤ l) (h : W.heap[l]? = some o) (hc : o.isCells = false) (hw : o.isWalk = false) : KpO n₀ b1 r W (W.putObj l o') :=
  ⟨belowK_b hn W l o o' hl h hc hw, fun x => x.kept (grownBy_putObj' W l o') (fun e => by
    cases e
    rw [show W.heap[b1]? = _ from x] at h
    injection h with h
    subst h
    cases hc)⟩
set_option maxRecDepth 100000 in
set_option maxHeartbeats 2000000 in
theorem oiter_in (n : Nat) (hn : 1 ≤ n) (l b1 b2 n₀ : Nat) (size : Int) (v : ByteArray) (hv9 : v.size ≤ 1000000) (J Jx : List ByteArray → World → Prop)
    (hJg : ∀ pre W W', J pre W → Below W.heap.size W W' → J pre W')
    (hY : ∀ pre x W, J pre W → pre.length < (partsL size v).length → YieldAt Fence.wide (n - 1) Try.prog l #[.string x] W fun e W' =>
      (e = .returned (.bool true) ∧ J (pre ++ [x]) W' ∧ KpO n₀ b1 (roomI size) W W') ∨ (e = .returned (.bool false) ∧ Jx (pre ++ [x]) W'))
    (W : World) (c1 : Boxed W b1 3 (.int .i64 (roomI size))) (c2 : W.cell? ⟨b2, 0, none⟩ = some (.string v)) (h0 : J [] W) :
    CallsIn Fence.wide n Try.prog 80 #[.func (.yield l) #[] #[], .pointer (some ⟨b1, 0, none⟩), .pointer (some ⟨b2, 0, none⟩)] W fun e W' => (∃ v, e = .returned v) ∧
      ((∃ ys, ys = partsL size v ∧ J ys W') ∨ (∃ pre, pre <+: partsL size v ∧ Jx pre W')) := by
  refine callsIn_of_wp Try.func80 rfl trivial ?_ rfl
  simp only [Try.ntmps80, List.size_toArray, List.length_cons, List.length_nil, Nat.reduceAdd, Nat.reduceSub, Array.replicate_succ, Array.replicate_zero, List.push_toArray, List.append_toArray, List.nil_append, List.cons_append]
  have cR := c1.cell
  rcases hg : goodSize size with _ | _
  · have hr0 : roomI size = 0 := by rw [roomI, hg]; rfl
    rw [hr0] at cR
    have HE := Lib.hid (show partsL size v = [] by rw [partsL, hg]; rfl)
    clear hg hr0 hY hJg
    gi_wp2
    refine bodyPost_ret (results_none rfl _ _ _) rfl ?_
    exact ⟨⟨_, rfl⟩, .inl ⟨[], HE.out.symm, h0⟩⟩
  · obtain ⟨z, rfl, hz1, hz2, _⟩ := good_nat hg
    obtain ⟨r, hr⟩ : ∃ r, r = z - 24 := ⟨_, rfl⟩
    have hri : roomI (z : Int) = (r : Int) := by rw [roomI, hg, if_pos rfl]; omega
    rw [hri] at hY c1 cR
    have HC := Lib.hid c1
    have hr0 : 0 < r := by omega
    have hr9 : r ≤ 4096 := by omega
    have hrb : ((r : Int) == 0) = false := by simp; omega
    have HE := Lib.hid (show partsL z v = chunks r v by rw [partsL, hg, if_pos rfl]; congr 1; omega)
    rw [HE.out] at hY ⊢
    have HY := Lib.hid hY
    have HJg := Lib.hid hJg
    clear hg hY hz1 hz2 hr hri c1 hJg
    gi_wp2
    clear cR c2
    gi_loopw [4, 5] (fun p _ wr => ∃ k : Nat, k ≤ ceilD v.size r ∧ p = .string (v.extract (k * r) v.size) ∧ Hid (J ((chunks r v).take k) wr) ∧ Hid (Boxed wr b1 3 (.int .i64 (r : Int)))) (fun p _ _ => strLen p)
    case atStart => exact ⟨0, Nat.zero_le _, by simp, Lib.hid (by simpa using h0), HC⟩
    case round =>
      obtain ⟨k, hk, rfl, HJ, HC'⟩ := hrel
      clear HC
      obtain ⟨R, hR⟩ : ∃ R, R = v.extract (k * r) v.size := ⟨_, rfl⟩
      have hRs : R.size = v.size - k * r := by rw [hR, ByteArray.size_extract]; omega
      rw [← hR]
      by_cases hlt : k < ceilD v.size r
      · have hkl := piece_lt hr0 hlt
        obtain ⟨q, hq⟩ : ∃ q, q = min R.size r := ⟨_, rfl⟩
        have hmin : min (r : Int) (R.size : Int) = (q : Int) := by omega
        have hemp : R.toList.isEmpty = false := by
          rw [Bool.eq_false_iff]
          intro h
          rw [List.isEmpty_iff_length_eq_zero, ByteArray.toList_eq, size_list] at h
          omega
        have hemp2 : ¬ R.toList = [] := fun h => by rw [h] at hemp; simp at hemp
        have hql : q ≤ R.size := by omega
        have hq0 : 0 < q := by omega
        have hp : R.extract 0 q = piece r v k := by
          apply bytes_ext
          rw [hR]
          unfold piece
          simp only [ByteArray.data_extract, Array.toList_extract, List.extract_eq_take_drop, List.drop_zero, Nat.sub_zero]
          rw [List.take_take]
          congr 1
          rw [Nat.add_mul, Nat.one_mul]
          omega
        have hnext : R.extract q R.size = v.extract ((k + 1) * r) v.size := by
          apply bytes_ext
          rw [hR]
          have e1 : (v.extract (k * r) v.size).data.toList = v.data.toList.drop (k * r) := ext_drop v (k * r)
          have e2 : (v.extract ((k + 1) * r) v.size).data.toList = v.data.toList.drop ((k + 1) * r) := ext_drop v ((k + 1) * r)
          have e3 : ((v.extract (k * r) v.size).extract q (v.extract (k * r) v.size).size).data.toList = ((v.extract (k * r) v.size).data.toList).drop q := ext_drop _ q
          rw [e3, e1, e2, List.drop_drop]
          by_cases hq2 : q = r
          · rw [hq2, Nat.add_mul, Nat.one_mul]
          · have hlen : v.data.toList.length = v.size := size_list v
            rw [List.drop_eq_nil_of_le (by omega), List.drop_eq_nil_of_le (by rw [Nat.add_mul, Nat.one_mul]; omega)]
        have htk : (chunks r v).take (k + 1) = (chunks r v).take k ++ [piece r v k] := by
          have : (chunks r v)[k]? = some (piece r v k) := by
            unfold chunks
            rw [List.getElem?_map, List.getElem?_range hlt]
            rfl
          obtain ⟨h1, h2⟩ := List.getElem?_eq_some_iff.1 this
          rw [List.take_succ_eq_append_getElem h1, h2]
        have HLen := Lib.hid (show ((chunks r v).take k).length < (chunks r v).length by rw [List.length_take, chunks_len]; omega)
        have HX9 := Lib.hid (show (R.extract 0 q).size ≤ 281474976710656 by rw [ByteArray.size_extract]; omega)
        have HN := Lib.hid hnext
        have HP := Lib.hid hp
        have HT := Lib.hid htk
        have HQ := Lib.hid hq
        have HRs := Lib.hid hRs
        have cR := HC'.out.cell
        clear hnext hp htk hq hR hkl hRs
        gi_wp2_with (refine ⟨trivial, ?_⟩; gi_at_call 68; refine (callsIn_wide.2 (sclone_any _ _ HX9.out)).mono ?_; rintro e W2 ⟨rfl, hb2⟩; have HJ2 := Lib.hid (HJg.out _ _ _ HJ.out hb2); have HC2 := Lib.hid (HC'.out.kept (grown_of_below hb2) (by simp)); clear hb2 cR; obtain ⟨fn, tmps, assign, body, hy, hRn⟩ := HY.out ((chunks r v).take k) (R.extract 0 q) W2 HJ2.out HLen.out)
        refine hRn.mono ?_
        rintro e W3 (⟨rfl, hJ3, hk3⟩ | ⟨rfl, hJx3⟩)
        · rw [HP.out, ← HT.out] at hJ3
          have HJ3 := Lib.hid hJ3
          have HC3 := Lib.hid (hk3.2 HC2.out)
          clear hJ3 hRn hy hk3
          gi_wp2
          go_roundw
          case rel =>
            first
              | exact ⟨k + 1, by omega, by rw [← HN.out], HJ3, HC3⟩
              | ((repeat apply Exists.intro); exact ⟨⟨k + 1, by omega, by rw [← HN.out], HJ3, HC3⟩, rfl⟩)
          case measure =>
            simp only [strLen]
            first
              | (rw [ByteArray.size_extract]; omega)
              | omega
        · rw [HP.out, ← HT.out] at hJx3
          gi_wp2
          refine bodyPost_ret (results_none rfl _ _ _) rfl ?_
          exact ⟨⟨_, rfl⟩, .inr ⟨_, List.take_prefix _ _, hJx3⟩⟩
      · have hkc : k = ceilD v.size r := by omega
        have hend := piece_end hr0 hlt
        have hemp : R.toList.isEmpty = true := by
          rw [List.isEmpty_iff_length_eq_zero, ByteArray.toList_eq, size_list]
          omega
        have hemp2 : R.toList = [] := List.isEmpty_iff.1 hemp
        have HT := Lib.hid (show (chunks r v).take k = chunks r v from List.take_of_length_le (by rw [chunks_len]; omega))
        clear hRs hR hend hkc hlt
        gi_wp2
        go_end0
        exact ⟨⟨_, rfl⟩, .inl ⟨_, rfl, by rw [← HT.out]; exact HJ.out⟩⟩
/-- over.Parts hands back a closure over the boxes of the room and of the value. -/
theorem omake_any (size : Int) (v : ByteArray) (w : World) :
    Calls Try.prog 46 #[.int .i64 size, .string v] w fun e w' => e = .returned (.func (.func 80) #[] #[.pointer (some ⟨w.heap.size + 1, 0, none⟩), .pointer (some ⟨w.heap.size, 0, none⟩)]) ∧ w' = (w.alloc (.cells #[.string v] 9)).alloc (.cells #[.int .i64 (roomI size)] 3) := by
  have hmf : ∀ (fn : Fn) (first cap : Array Value) (w : World), (Instr.makeFunc fn first cap).run Try.prog w = .ok (.func fn first cap) w := fun _ _ _ _ => rfl
  have HM := fun w => oroom_any size w
  go_enter Try.func46, Try.ntmps46
  go_wp2_with (go_at_call 61; refine (HM _).mono ?_; rintro e w' ⟨rfl, rfl⟩)
  go_ret
  exact ⟨rfl, rfl⟩
theorem oparts_stops (n : Nat) (hn : 1 ≤ n) (b1 b2 n₀ : Nat) (size : Int) (v : ByteArray) (hv9 : v.size ≤ 1000000) (w : World) (h1 : b1 < w.heap.size) (h2 : b2 < w.heap.size)
    (c1 : Boxed w b1 3 (.int .i64 (roomI size))) (c2 : w.cell? ⟨b2, 0, none⟩ = some (.string v)) :
    SeqStopsK Fence.wide n Try.prog 80 #[.pointer (some ⟨b1, 0, none⟩), .pointer (some ⟨b2, 0, none⟩)] (fun x : ByteArray => #[Value.string x]) (KpO n₀ b1 (roomI size)) (fun ys => ys = partsL size v) (fun pre => pre <+: partsL size v) (partsL size v).length w := fun l J Jx W hW hJ _ hY h0 =>
  oiter_in n hn l b1 b2 n₀ size v hv9 J Jx (fun pre W1 W2 hj hb => hJ pre W1 W2 none hj (grown_of_below hb) (fun r e => by cases e)) hY W ((hW.block b1 h1).trans c1) ((hW.cell (p := ⟨b2, 0, none⟩) h2).trans c2) h0
theorem infoStr : (Try.prog.info? 9).map (fun i => (i.zero, i.size, i.bytes)) = some (some (.string ByteArray.empty), 1, 16) := by kernel_rfl
theorem parts_le (size : Int) (v : ByteArray) : (partsL size v).length ≤ v.size := by
  unfold partsL
  split
  · rename_i hg
    obtain ⟨z, rfl, h1, _⟩ := good_nat hg
    rw [chunks_len]
    rcases Nat.lt_or_ge 0 (ceilD v.size ((z : Int) - 24).toNat) with h | h
    · have h2 := piece_lt (n := v.size) (r := ((z : Int) - 24).toNat) (i := ceilD v.size ((z : Int) - 24).toNat - 1) (by omega) (by omega)
      have h3 : (ceilD v.size ((z : Int) - 24).toNat - 1) * 1 ≤ (ceilD v.size ((z : Int) - 24).toNat - 1) * ((z : Int) - 24).toNat := Nat.mul_le_mul_left _ (by omega)
      omega
    · omega
  · simp
theorem results_cell_cell9 {P : Program} {fn : Func} {p q : Tmp} {ty tq : TypeId} (h : fn.results = #[.cell p ty, .cell q tq]) (tmps : Array Value) (w : World) (g g' : Nat) (u v : Value)
    (hp : tmps.getD p undef = .pointer (some ⟨g, 0, none⟩)) (hq : tmps.getD q undef = .pointer (some ⟨g', 0, none⟩)) (hu : (loadVar ty ⟨g, 0, none⟩).run P w = .ok u w) (hv : (loadVar tq ⟨g', 0, none⟩).run P w = .ok v w) :
    (results fn tmps).run P w = .ok (.tuple #[u, v]) w := by
  have hp' : tmps[p]?.getD undef = .pointer (some ⟨g, 0, none⟩) := by simpa using hp
  have hq' : tmps[q]?.getD undef = .pointer (some ⟨g', 0, none⟩) := by simpa using hq
  simp [results, h, hp', hq', asAddr, hu, hv]
theorem load_box9 {w : World} {g : Nat} {t : TypeId} {v : Value} (ht : t = 57 ∨ t = 4) (h : Boxed w g t v) : (loadVar t ⟨g, 0, none⟩).run Try.prog w = .ok v w := by
  have hc := h.cell
  rcases ht with rfl | rfl <;> simp [go_sem, hc]
end Go.Proofs.Ytabhhccdbfjigaa
namespace Go.Proofs.Ytabhhccdbfjigaa
open Go.RowKit Go.Shelf

set_option linter.unusedVariables false
set_option linter.unusedSimpArgs false
attribute [local go_sem] Oper.semAt_some

theorem load_boxS {w : World} {g : Nat} {v : Value} (h : Boxed w g 57 v) : (loadVar 57 ⟨g, 0, none⟩).run Try.prog w = .ok v w := by
  have hc := h.cell
  simp [go_sem, hc]
set_option maxRecDepth 100000 in
set_option maxHeartbeats 4000000 in
theorem appendSeq_any (size : Int) (v : ByteArray) (b1 b2 : Nat) (w : World) (hv : v.size ≤ 1000000) (c1 : Boxed w b1 3 (.int .i64 (roomI size))) (c2 : Boxed w b2 9 (.string v)) :
    Calls Try.prog 79 #[.slice none 0 0, .func (.func 80) #[] #[.pointer (some ⟨b1, 0, none⟩), .pointer (some ⟨b2, 0, none⟩)]] w fun e w' =>
      ∃ V, e = .returned V ∧ w'.ownsRow w.heap.size 9 1 V (partsL size v).length ((partsL size v).map Value.string) ∧ Below w.heap.size w w' := by
  have hple := parts_le size v
  obtain ⟨i0, hi, hz0, hz1, hz2⟩ := info_parts infoStr
  refine (callsIn_wide (n := 5)).1 ?_
  refine callsIn_of_wp_marks Try.func79 rfl trivial ?_ rfl
  simp only [Try.ntmps79, List.size_toArray, List.length_cons, List.length_nil, Nat.reduceAdd, Nat.reduceSub, Array.replicate_succ, Array.replicate_zero, List.push_toArray, List.append_toArray, List.nil_append, List.cons_append]
  gi_wp2
  obtain ⟨H, hH⟩ : ∃ H, H = w.heap.size := ⟨_, rfl⟩
  obtain ⟨W0, hW0⟩ : ∃ W0, W0 = w.alloc (.cells #[.slice none 0 0] 57) := ⟨_, rfl⟩
  have hsz : W0.heap.size = H + 1 := by rw [hW0, hH]; simp
  have bO : Boxed W0 H 57 (.slice none 0 0) := by rw [hW0, hH]; exact Boxed.new w _ _
  have bR : Boxed W0 b1 3 (.int .i64 (roomI size)) := by rw [hW0]; exact c1.alloc _
  have bS : Boxed W0 b2 9 (.string v) := by rw [hW0]; exact c2.alloc _
  have hB0 : Below H w W0 := by rw [hW0, hH]; exact (Below.refl _ w).alloc (Nat.le_refl _) _
  have h1H : b1 < H := by rw [hH]; exact c1.lt
  have h2H : b2 < H := by rw [hH]; exact c2.lt
  rw [← hW0, ← hH]
  have hHle : H ≤ w.heap.size := by omega
  have HH := Lib.hid hH
  have h6 : H + 1 ≤ W0.heap.size := by omega
  clear hW0 hH hsz c1 c2
  refine wpIn_rangeFunc_ownG (F := Fence.wide) rfl (by decide) (gf := 80) (lb := #[.pointer (some ⟨b1, 0, none⟩), .pointer (some ⟨b2, 0, none⟩)]) rfl trivial (enters_of Try.func80 (by kernel_rfl) rfl)
    (oparts_stops (5 - 1) (by decide) b1 b2 H size v hv W0 (by omega) (by omega) bR bS.cell) kpO_t (kpO_b (by omega)) (Below.refl _ _) (fun _ => rfl)
    (fun pre W => (∃ V, Boxed W H 57 V ∧ W.ownsRow H 9 1 V pre.length (pre.map Value.string) ∧ True) ∧ Below H w W)
    (fun _ _ _ => False)
    (OwnFrom.and (Own.from (holdsRow_own H H 57 9 1 (fun pre : List ByteArray => pre.length) (fun pre : List ByteArray => pre.map Value.string) (fun _ _ => True)) _) (ownFrom_below (by omega) (by omega)))
    (fun _ _ _ _ _ hs _ _ => hs)
    ⟨⟨_, bO, World.ownsRow_nil _ _ _ _, trivial⟩, hB0⟩
    (fun x => { tmps := #[.slice none 0 0, .func (.func 80) #[] #[.pointer (some ⟨b1, 0, none⟩), .pointer (some ⟨b2, 0, none⟩)], .pointer (some ⟨H, 0, none⟩), undef, .slice none 0 0, .string x, .func (.func 80) #[] #[.pointer (some ⟨b1, 0, none⟩), .pointer (some ⟨b2, 0, none⟩)], .string x, undef, undef, undef, undef, undef], defers := [] }) ?assign ?body ?done ?stop
  case assign =>
    intro l x W K hK
    gi_wp2
    exact hK
  case body =>
    rintro l pre x W ⟨⟨V, hv, hrow, _⟩, hB⟩ hlt
    have hcO := hv.cell
    obtain ⟨AV, cV, rfl, _, _, _⟩ := own_form hrow
    gi_wp2_with (gi_at_builtin; refine wpListIn_append_own _ rfl _ _ 57 rfl H 9 i0 (.string ByteArray.empty) 1 16 Try.underlying57 hi hz0 hz1 hz2 rfl (by decide) _ _ _ rfl (hrow.alloc _) ⟨W.heap.size, 0, none⟩ 1 1 [.string x] rfl rfl (cell_one_new _ _ _) (by simp [Value.oneCell']) (by unfold maxLen; omega) (by omega) (by have := hB.size; simp; omega) ?_; intro v' w1 hown' hgrow _; obtain ⟨g', cap', rfl⟩ := ownsRow_succ hown'; obtain ⟨hv1, hv2, hr2, hk2, hb2⟩ := hv.appended (by decide) hrow (Nat.le_trans hHle hB.size) (Nat.le_refl _) hown' hgrow; have hc1 := hv1.cell; have hf1 := hv1.frozen)
    refine ⟨hk2.from _, ⟨hb2, fun xb => (hb2.block b1 h1H).trans xb⟩, ⟨⟨_, hv2, ?_⟩, hB.trans hb2⟩⟩
    first
      | exact ⟨by simpa using hr2, trivial⟩
      | simpa using hr2
  case done =>
    rintro D ys W hD rfl ⟨⟨V, hv, hrow, _⟩, hB⟩ hK
    have hcO := hv.cell
    obtain ⟨AV, cV, rfl, _, _, _⟩ := own_form hrow
    gi_wp2
    refine ⟨by simp, .inl ⟨_, _, rfl, run_takeDeferred hK, ?_⟩⟩
    have h := hB.trans (belowK_b (w := w) hHle W D _ (.deferred none) (by have := HH.out; omega) hK rfl rfl)
    have hr := ownsRow_putObj hrow (.deferred none) hK rfl
    rw [HH.out] at h hr
    exact ⟨_, results_tmp rfl _ _ _, .slice AV (partsL size v).length cV, rfl, hr, h⟩
  case stop =>
    rintro D c pre W _ _ h _
    exact h.elim
theorem collect_any (size : Int) (v : ByteArray) (b1 b2 : Nat) (w : World) (hv : v.size ≤ 1000000) (c1 : Boxed w b1 3 (.int .i64 (roomI size))) (c2 : Boxed w b2 9 (.string v)) :
    Calls Try.prog 45 #[.func (.func 80) #[] #[.pointer (some ⟨b1, 0, none⟩), .pointer (some ⟨b2, 0, none⟩)]] w fun e w' =>
      ∃ V, e = .returned V ∧ w'.ownsRow w.heap.size 9 1 V (partsL size v).length ((partsL size v).map Value.string) ∧ Below w.heap.size w w' := by
  have HC := Lib.hid (appendSeq_any size v b1 b2 w hv c1 c2)
  clear c1 c2
  go_enter Try.func45, Try.ntmps45
  go_wp2_with (go_at_call 79; refine HC.out.mono ?_; rintro e w' ⟨V, rfl, hr, hb⟩)
  go_ret
  exact ⟨_, rfl, hr, hb⟩
end Go.Proofs.Ytabhhccdbfjigaa
namespace Go.Proofs
open Go.Shelf
def Try.lays125_ren : Go.Shelf.Ren := ⟨fun | 125 => 95 | 128 => 113 | 129 => 114 | n => n, fun | 46 => 125 | 3 => 3 | 51 => 29 | 53 => 28 | 4 => 4 | 5 => 5 | 9 => 9 | n => n, fun | n => n⟩
theorem Try.lays125 : Go.Proofs.Lays.n125 Try.prog Try.lays125_ren := {
  mixed := by kernel_rfl
  f125 := Try.func95.trans (congrArg some (by kernel_rfl))
  f128 := Try.func113.trans (congrArg some (by kernel_rfl))
  f129 := Try.func114.trans (congrArg some (by kernel_rfl))
  t3 := Try.underlying3
  a3 := Try.isAgg3
  z3 := Try.sizeOf3
  v3 := Try.zeroValue3
  t4 := Try.underlying4
  a4 := Try.isAgg4
  z4 := Try.sizeOf4
  v4 := Try.zeroValue4
  t5 := Try.underlying5
  a5 := Try.isAgg5
  z5 := Try.sizeOf5
  v5 := Try.zeroValue5
  t9 := Try.underlying9
  a9 := Try.isAgg9
  z9 := Try.sizeOf9
  v9 := Try.zeroValue9
  t46 := Try.underlying125
  a46 := Try.isAgg125
  z46 := Try.sizeOf125
  v46 := Try.zeroValue125
  t51 := Try.underlying29
  a51 := Try.isAgg29
  z51 := Try.sizeOf29
  v51 := Try.zeroValue29
  t53 := Try.underlying28
  a53 := Try.isAgg28
  z53 := Try.sizeOf28
  v53 := Try.zeroValue28 }
theorem Try.bits_Len (x : Int) (w : World) (h0 : 0 ≤ x) (h1 : x ≤ 18446744073709551615) :
    Calls Try.prog 95 #[.int .u64 x] w fun e w' => e = .returned (.int .i64 (Lib.bitLen x.toNat)) ∧ w' = w := Any.bits_Len Try.lays125 x w h0 h1
end Go.Proofs
