/-
  Contract of chain.Lay: pages written into an image, one after the other.
-/
import Derived.Test.YtabhhccdbfjigaaJ21
import Derived.Test.YtabhhccdbfjigaaJ12
import Derived.Test.YtabhhccdbfjigaaJ7
import Derived.Test.YtabhhccdbfjigaaJ11
import Derived.Test.YtabhhccdbfjigaaJ16
import Derived.Lib.BufferWrite
import Derived.Lib.SlBuf
import Derived.Deep.CutRange
import Derived.Lib.MinMax
import Derived.Deep.RegionHeld3
import Derived.Deep.DrawnRows
import Derived.Test.YtabhhccdbfjigaaJ28
import Derived.Test.YtabhhccdbfjigaaJ40
namespace Go.Proofs.Ytabhhccdbfjigaa
open Go.RowKit
open Go.Lib hiding intOf
set_option linter.unusedVariables false
set_option linter.unusedSimpArgs false
attribute [local go_sem ↓] Go.wp_at_zero Go.wp_at_succ

/-- An image in so many bytes. -/
def padL (E : Nat) (b : ByteArray) : List UInt8 := b.data.toList ++ List.replicate (E - b.size) 0
theorem padL_len {E : Nat} {b : ByteArray} (h : b.size ≤ E) : (padL E b).length = E := by
  unfold padL
  rw [List.length_append, List.length_replicate, size_list]
  omega
theorem padL_full {E : Nat} {b : ByteArray} (h : b.size = E) : padL E b = b.data.toList := by
  unfold padL
  rw [h, Nat.sub_self]
  simp
theorem padL_write {E z p : Nat} {b img : ByteArray} (hb : b.size = z) (hE : p * z + z ≤ E) (hi : img.size ≤ E) :
    padL E (writeB z p b img) = (padL E img).take (p * z) ++ b.data.toList ++ (padL E img).drop (p * z + z) := by
  have hil : img.data.toList.length = img.size := size_list img
  have hbl : b.data.toList.length = z := by rw [size_list, hb]
  unfold padL
  rw [writeB_list, writeB_size z p b img hb]
  unfold bWrite
  rw [hil]
  have e1 : (img.data.toList ++ List.replicate (E - img.size) 0).take (p * z) = (img.data.toList ++ List.replicate (p * z + z - img.size) 0).take (p * z) := by
    rw [List.take_append, List.take_append, List.take_replicate, List.take_replicate, hil]
    congr 2
    omega
  have e2 : (img.data.toList ++ List.replicate (E - img.size) 0).drop (p * z + z) = img.data.toList.drop (p * z + z) ++ List.replicate (E - max img.size (p * z + z)) (0 : UInt8) := by
    rw [List.drop_append, List.drop_replicate, hil]
    congr 2
    omega
  rw [e1, e2]
  simp only [List.append_assoc]
/-- The end of the image so far. -/
def endL (size : Nat) (img : ByteArray) (L : List Pg) : Nat := L.foldl (fun a p => max a (p.pg * size + size)) img.size
theorem endL_snoc (size : Nat) (img : ByteArray) (L : List Pg) (p : Pg) : endL size img (L ++ [p]) = max (endL size img L) (p.pg * size + size) := by unfold endL; rw [List.foldl_append]; rfl
def allMay (size : Int) (L : List Pg) : Prop := ∀ p ∈ L, mayPg size p.kd p.ct p.pg p.lk p.tx p.bd = true
theorem layL_all {size : Nat} {img : ByteArray} : ∀ (k : Nat) {L : List Pg}, L.length = k → allMay size L → ∃ im, layL size img L = some im ∧ im.size = endL size img L
  | 0, L, h, _ => by obtain rfl : L = [] := List.length_eq_zero_iff.1 h; exact ⟨img, rfl, rfl⟩
  | k + 1, L, h, ha => by
    obtain ⟨M, p, rfl⟩ : ∃ M p, L = M ++ [p] := ⟨L.dropLast, L.getLast (by intro e; rw [e] at h; simp at h), (List.dropLast_concat_getLast _).symm⟩
    obtain ⟨im, h1, h2⟩ := layL_all k (L := M) (by simpa using h) (fun q hq => ha q (by simp [hq]))
    have hp := ha p (by simp)
    have hps := (block_right hp).1
    refine ⟨writeB size p.pg p.block im, ?_, ?_⟩
    · rw [layL_snoc, h1]
      simp only [hp, if_true]
      rfl
    · rw [endL_snoc, writeB_size _ _ _ _ (by rw [hps]), h2]
theorem endL_take_le {size : Nat} {img : ByteArray} {L : List Pg} : ∀ (d k : Nat), endL size img (L.take k) ≤ endL size img (L.take (k + d))
  | 0, k => Nat.le_refl _
  | d + 1, k => by
    refine Nat.le_trans (endL_take_le d k) ?_
    rw [← Nat.add_assoc]
    by_cases h : k + d < L.length
    · rw [List.take_succ_eq_append_getElem h, endL_snoc]
      exact Nat.le_max_left _ _
    · rw [List.take_of_length_le (by omega : L.length ≤ k + d), List.take_of_length_le (by omega : L.length ≤ k + d + 1)]
      exact Nat.le_refl _
theorem may_nat {size : Int} {p : Pg} (h : mayPg size p.kd p.ct p.pg p.lk p.tx p.bd = true) : 0 ≤ p.kd ∧ 0 ≤ p.ct ∧ p.pg ≤ 2147483647 ∧ goodSize size = true := by
  simp only [mayPg, Bool.and_eq_true, decide_eq_true_eq] at h
  exact ⟨by omega, by omega, by omega, h.1⟩
/-- frame.Put, of whatever page. -/
theorem fput_all (size : Int) (p : Pg) (w : World) :
    Calls Try.prog 27 #[.int .i64 size, .agg #[.int .i64 p.kd, .int .i64 p.ct, .int .u32 p.pg, .int .u32 p.lk, .int .u64 p.tx, .string p.bd]] w fun e w' =>
      e = .returned (.tuple #[.string (if mayPg size p.kd p.ct p.pg p.lk p.tx p.bd then p.block else ⟨#[]⟩), .int .i64 (if mayPg size p.kd p.ct p.pg p.lk p.tx p.bd then 0 else 2)]) ∧ Below w.heap.size w w' := by
  rcases hm : mayPg size p.kd p.ct p.pg p.lk p.tx p.bd with _ | _
  · exact fput_no _ _ _ _ _ _ _ _ hm
  · obtain ⟨h1, h2, _, _⟩ := may_nat hm
    obtain ⟨kd, ct, pg, lk, tx, bd⟩ := p
    simp only at h1 h2 hm
    obtain ⟨k, rfl⟩ := Int.eq_ofNat_of_zero_le h1
    obtain ⟨c, rfl⟩ := Int.eq_ofNat_of_zero_le h2
    exact fput_yes _ k c _ _ _ _ _ hm
theorem hstart_any (z : Nat) (p : Pg) (w : World) (hz : z ≤ 4096) (hp : p.pg ≤ 2147483647) :
    Calls Try.prog 28 #[.int .i64 z, .agg #[.int .i64 p.kd, .int .i64 p.ct, .int .u32 p.pg, .int .u32 p.lk, .int .u64 p.tx, .string p.bd]] w fun e w' =>
      e = .returned (.int .i64 ((p.pg * z : Nat) : Int)) ∧ Below w.heap.size w w' := by
  obtain ⟨kd, ct, pg, lk, tx, bd⟩ := p
  have b0 : Blk (w.alloc (.cells #[.int .i64 kd, .int .i64 ct, .int .u32 pg, .int .u32 lk, .int .u64 tx, .string bd] 40)) w.heap.size 40 #[.int .i64 kd, .int .i64 ct, .int .u32 pg, .int .u32 lk, .int .u64 tx, .string bd] := Blk.new _ _ _
  have HB := Lib.hid (show Below w.heap.size w (w.alloc (.cells #[.int .i64 kd, .int .i64 ct, .int .u32 pg, .int .u32 lk, .int .u64 tx, .string bd] 40)) from (Below.refl _ _).alloc (Nat.le_refl _) _)
  have c2 := b0.cell 2
  simp at c2
  simp only at hp
  have hm : pg * z ≤ 2147483647 * 4096 := Nat.mul_le_mul hp hz
  have hw1 : IntKind.i64.wrap (pg : Int) = (pg : Int) := i64_nat pg (by omega)
  have hw2 : wrap64 ((pg : Int) * (z : Int)) = ((pg * z : Nat) : Int) := by rw [← Int.natCast_mul]; exact wrap64_nat _ (by omega)
  go_enter Try.func28, Try.ntmps28
  go_wp2_with fail
  go_ret
  exact ⟨by first | rfl | simp, HB.out⟩
theorem infoStrL : (Try.prog.info? 9).map (fun i => (i.zero, i.size, i.bytes)) = some (some (.string ByteArray.empty), 1, 16) := by kernel_rfl
theorem infoU8L : (Try.prog.info? 5).map (fun i => (i.zero, i.size, i.bytes)) = some (some (.int .u8 0), 1, 1) := by kernel_rfl
theorem layL_le {size : Int} : ∀ {M : List Pg} {a b : ByteArray}, layL size a M = some b → a.size ≤ b.size
  | [], a, b, h => by
    have : a = b := by simpa [layL] using h
    rw [this]
    exact Nat.le_refl _
  | p :: M, a, b, h => by
    rcases hm : mayPg size p.kd p.ct p.pg p.lk p.tx p.bd with _ | _
    · have : layL size a (p :: M) = none := by
        have := layL_none (M := M) (show layL size a [p] = none by simp [layL, hm])
        simpa using this
      rw [this] at h; cases h
    · rw [layL_cons _ _ _ _ hm] at h
      obtain ⟨z, rfl, _⟩ := good_nat (may_nat hm).2.2.2
      refine Nat.le_trans ?_ (layL_le h)
      rw [Int.toNat_natCast, writeB_size _ _ _ _ (block_right hm).1]
      exact Nat.le_max_left _ _
/-- Where all pages were laid, each of them was. -/
theorem lay_part {size : Int} {img im : ByteArray} {L : List Pg} (h : layL size img L = some im) (k : Nat) : ∃ i, layL size img (L.take k) = some i ∧ i.size ≤ im.size := by
  rw [← List.take_append_drop k L, lay_append] at h
  rcases hx : layL size img (L.take k) with _ | i
  · rw [hx] at h; cases h
  · rw [hx] at h
    exact ⟨i, rfl, layL_le h⟩
theorem lay_at {size : Int} {img im : ByteArray} {L : List Pg} (h : layL size img L = some im) {k : Nat} {p : Pg} (hp : L[k]? = some p) :
    mayPg size p.kd p.ct p.pg p.lk p.tx p.bd = true ∧ ∃ i, layL size img (L.take k) = some i ∧ layL size img (L.take (k + 1)) = some (writeB size.toNat p.pg p.block i) ∧ (writeB size.toNat p.pg p.block i).size ≤ im.size := by
  obtain ⟨i, h1, h2⟩ := lay_part h k
  obtain ⟨j, h3, h4⟩ := lay_part h (k + 1)
  have h5 := layL_snoc size img (L.take k) p
  rw [← take_snoc_at hp, h3, h1] at h5
  rcases hm : mayPg size p.kd p.ct p.pg p.lk p.tx p.bd with _ | _
  · rw [hm] at h5
    cases h5
  · rw [hm] at h5
    injection h5 with h5
    exact ⟨rfl, i, h1, by rw [h3, h5], by rw [← h5]; exact h4⟩
/-- The bytes of a buffer of the call's own. -/
def BRow (w : World) (g : Nat) (l : List UInt8) : Prop := Blk w g 5 (byteCells l).toArray
theorem BRow.made {w w' : World} {n : Nat} (h : w' = w.alloc (.cells (madeCells #[.int .u8 0] n) 5)) : BRow w' w.heap.size (List.replicate n 0) := by
  subst h
  have hb := Blk.new w 5 (madeCells #[.int .u8 0] n)
  unfold BRow
  have e : (byteCells (List.replicate n 0)).toArray = madeCells #[.int .u8 0] n := by
    rw [← Array.toArray_toList (xs := madeCells #[.int .u8 0] n), toList_madeCells_one]
    simp [byteCells]
  rw [e]
  exact hb
theorem BRow.copy {w : World} {g : Nat} {l : List UInt8} (h : BRow w g l) (o : Nat) (s : ByteArray) (d c : Nat) (hd : s.size ≤ d) (ho : o + s.size ≤ l.length) :
    ∃ w', (Builtin.copy_ #[60, 9] 3 #[.slice (some ⟨g, o, none⟩) d c, .string s]).run Try.prog w = .ok (.int .i64 (s.size : Int)) w' ∧ BRow w' g (l.take o ++ s.data.toList ++ l.drop (o + s.size)) ∧ ∀ {B : Nat} {w0 : World}, B ≤ g → Below B w0 w → Below B w0 w' := by
  obtain ⟨i0, hi0, hz0, hz1, hz2⟩ := info_parts infoU8L
  have hcs : (byteCells l).toArray.size = l.length := by simp [byteCells]
  refine ⟨_, run_copy_row_string w 60 9 3 5 g o d c s _ _ Try.underlying60 (by rw [hi0]; simp [hz1]) h hd (by rw [hcs]; exact ho), ?_, fun hB hb => below_setRow hb hB _⟩
  have h2 := setRow_heap w g _ ((byteCells l).toArray.toList.take o ++ byteCells s.data.toList ++ (byteCells l).toArray.toList.drop (o + s.size)).toArray _ _ h
  unfold BRow Blk
  rw [h2]
  have e : byteCells (l.take o ++ s.data.toList ++ l.drop (o + s.size)) = (byteCells l).toArray.toList.take o ++ byteCells s.data.toList ++ (byteCells l).toArray.toList.drop (o + s.size) := by
    simp [byteCells, List.map_append, List.map_take, List.map_drop]
  rw [e]
theorem BRow.str {w : World} {g : Nat} {l : List UInt8} (h : BRow w g l) (n c : Nat) (hn : l.length = n) : (convert 60 9 (.slice (some ⟨g, 0, none⟩) n c)).run Try.prog w = .ok (.string ⟨l.toArray⟩) w := by
  subst hn
  refine run_string_reads w 60 9 5 c Try.underlying60 Try.underlying5 Try.underlying9 (B := w.heap.size) ?_
  have h2 : Blk w g 5 (bcells l).toArray := h
  refine ⟨by rw [bcells_length, Nat.mul_one], fun _ => ⟨_, rfl, h2.lt, fun j u hu => ?_⟩⟩
  have e : (⟨g, 0, none⟩ : Addr).add j = ⟨g, j, none⟩ := by unfold Addr.add; split <;> simp_all
  rw [e, h2.cell]
  simpa using hu
theorem BRow.below {w w' : World} {g B : Nat} {l : List UInt8} (h : BRow w g l) (hb : Below B w w') (hg : g < B) : BRow w' g l := Blk.below h hb hg
theorem step_copy_ex {P : Program} {ops : Array Oper} {o : Oper} {a : Act} {w : World} {K : Act → World → Prop} {Q : Exit → Act → World → Prop} {E : Prop} {R : World → Prop}
    (hg : o.guard = none) (d x : Operand) (dT sT : TypeId) (hop : o.op = Op.call { callee := Callee.builtin Builtin.copy, args := #[d, x], argTypes := #[dT, sT] })
    (v u : Value) (hd : a.eval d = v) (hx : a.eval x = u) {v' : Value} (hr : ∃ w', (Builtin.copy_ #[dT, sT] o.type #[v, u]).run P w = .ok v' w' ∧ R w') (hK : ∀ w', R w' → K (a.put o.dst v') w') :
    if Region.wanted o (yielded ops a.tmps) = true then Oper.wp P o a w K Q else E := by
  obtain ⟨w', hr, h⟩ := hr
  have hw : Region.wanted o (yielded ops a.tmps) = true := by simp [Region.wanted, hg]
  rw [if_pos hw]
  unfold Oper.wp
  simp [execOp, hop, resolve, invoke, builtin, hd, hx, hr, Result.andThen]
  exact hK _ h
theorem bsliced (g E q : Nat) (hq : q < E) : ∀ w : World, (Instr.sliceAt 60 (.slice (some ⟨g, 0, none⟩) E E) (some (.int .i64 (q : Int))) none none).run Try.prog w = .ok (.slice (some ⟨g, q, none⟩) (E - q) (E - q)) w := by
  intro w
  obtain ⟨i0, hi0, hz0, hz1, hz2⟩ := info_parts infoU8L
  have he : Try.prog.elem 60 = 5 := by kernel_rfl
  have hu : Try.prog.underlying 60 = some (.slice (Try.prog.elem 60)) := by rw [he]; exact Try.underlying60
  have hne : ¬ E = q := by omega
  rw [run_sliceAt_slice w _ _ _ _ _ hu, run_slice_l w _ _ E E hu .i64 q (by omega) (by omega), he]
  simp [sizeOf, typeInfo, hi0, hz1, sliced, hne, Addr.add]
  exact fun h => h.symm
set_option maxRecDepth 100000 in
set_option maxHeartbeats 12800000 in
theorem hlay_any (size : Int) (img : ByteArray) (A : Option Addr) (n c : Nat) (L : List Pg) (w : World) (hi : img.size ≤ 8796093022208) (hr : Reads w w.heap.size 6 A n (pgcs L)) (hn : n ≤ 1000000) :
    Calls Try.prog 10 #[.int .i64 size, .string img, .slice A n c] w fun e w' => e = .returned (.tuple #[.string (layStr size img L), .int .i64 (layErr size img L)]) ∧ Below w.heap.size w w' := by
  obtain ⟨i0, hi0, hz0, hz1, hz2⟩ := info_parts infoStrL
  have HR := Lib.hid hr
  have HL := Lib.hid (pgcs_len hr)
  clear hr
  go_enter Try.func10, Try.ntmps10
  go_wp2_with fail
  go_loopw [8, 9, 21] (fun v en i wr => ∃ (k : Nat) (im : ByteArray) (A' : Option Addr) (c' : Nat), k ≤ n ∧ i = .int .i64 k ∧ v = .slice A' k c' ∧ en = .int .i64 im.size ∧ Hid (layL size img (L.take k) = some im) ∧ im.size ≤ 8796093022208 ∧ Hid (wr.ownsRow w.heap.size 9 1 (.slice A' k c') k ((L.take k).map fun p => Value.string p.block)) ∧ Hid (Below w.heap.size w wr)) (fun _ _ i _ => n - (intOf i).toNat)
  case atStart => exact ⟨0, img, none, 0, Nat.zero_le _, rfl, rfl, rfl, Lib.hid rfl, hi, Lib.hid (World.ownsRow_nil _ _ _ _), Lib.hid (Below.refl _ _)⟩
  case round =>
    obtain ⟨k, im, A', c', hk, rfl, rfl, rfl, HV, hib, HO, HB⟩ := hrel
    by_cases hlt : k < n
    · obtain ⟨ad, y, rfl, _, hy, _⟩ := page_at (HR.out.below HB.out) hlt
      have hj0 : (0 : Int) ≤ k := by omega
      have hj1 : (k : Int) < n := by omega
      obtain ⟨d0, d1, d2, d3, d4, d5⟩ := pgcell (HR.out.below HB.out) hlt hy
      have HY := Lib.hid hy
      have htk := take_snoc_at hy
      have hvs := layL_snoc size img (L.take k) y
      rw [← htk, HV.out] at hvs
      have HTk := Lib.hid htk
      have HP := fun w => fput_all size y w
      have HS := fun (z : Nat) (w : World) => hstart_any z y w
      obtain ⟨pk, pc, pn, pl, pt, pb⟩ := y
      simp only at d0 d1 d2 d3 d4 d5 hvs HP HS
      clear htk hy
      go_upto_region 6 with fail
      obtain ⟨w1, hw1⟩ : ∃ x, x = wr.alloc (.cells #[.int .i64 pk, .int .i64 pc, .int .u32 pn, .int .u32 pl, .int .u64 pt, .string pb] 40) := ⟨_, rfl⟩
      have QP := Lib.hid (show Blk w1 wr.heap.size 40 #[.int .i64 pk, .int .i64 pc, .int .u32 pn, .int .u32 pl, .int .u64 pt, .string pb] by rw [hw1]; exact Blk.new _ _ _)
      have HO1 := Lib.hid (show w1.ownsRow w.heap.size 9 1 (.slice A' k c') k _ by rw [hw1]; exact HO.out.alloc _)
      have HB1 := Lib.hid (show Below w.heap.size w w1 by rw [hw1]; exact HB.out.alloc HB.out.size _)
      rw [← hw1]
      clear hw1 d0 d1 d2 d3 d4 d5
      generalize wr.heap.size = gQ at *
      have c0 := QP.out.cell 0
      have c1 := QP.out.cell 1
      have c2 := QP.out.cell 2
      have c3 := QP.out.cell 3
      have c4 := QP.out.cell 4
      have c5 := QP.out.cell 5
      simp at c0 c1 c2 c3 c4 c5
      rcases hm : mayPg size pk pc pn pl pt pb with _ | _
      · rw [hm] at hvs
        have HE := Lib.hid (layL_front hvs)
        simp only [hm, if_false, Bool.false_eq_true] at HP
        clear hvs hm
        go_wp2_with (go_at_call 27; refine (HP _).mono ?_; rintro e w2 ⟨rfl, hb⟩)
        go_ret2
        rw [(lay_no HE.out).1, (lay_no HE.out).2]
        exact ⟨rfl, HB1.out.trans (hb.mono HB1.out.size)⟩
      · rw [hm] at hvs
        obtain ⟨m1, m2, m3, m4⟩ := may_nat (p := ⟨pk, pc, pn, pl, pt, pb⟩) hm
        obtain ⟨z, rfl, hz1', hz2', _⟩ := good_nat m4
        have hbs := (block_right (p := ⟨pk, pc, pn, pl, pt, pb⟩) hm).1
        simp only [hm, if_true] at HP
        obtain ⟨bk, hbkk⟩ : ∃ b, b = (⟨pk, pc, pn, pl, pt, pb⟩ : Pg).block := ⟨_, rfl⟩
        rw [Int.toNat_natCast] at hvs
        rw [← hbkk] at hbs hvs HP
        have hsz := writeB_size z pn bk im hbs
        simp only at m3
        have hmul : pn * z ≤ 2147483647 * 4096 := Nat.mul_le_mul (by omega) (by omega)
        have HSt := fun w => HS z w (by omega) m3
        clear HS
        obtain ⟨q, hq⟩ : ∃ q, q = pn * z := ⟨_, rfl⟩
        rw [← hq] at hsz hmul HSt
        obtain ⟨im2, him2⟩ : ∃ x, x = writeB z pn bk im := ⟨_, rfl⟩
        rw [← him2] at hsz hvs
        have hw1 : IntKind.i64.wrap ((q : Int) + (z : Int)) = (q : Int) + (z : Int) := by rw [IntKind.wrap_i64]; omega
        have hmx : max (im.size : Int) ((q : Int) + (z : Int)) = (im2.size : Int) := by omega
        have hib2 : im2.size ≤ 8796093022208 := by omega
        have HV2 := Lib.hid (show layL z img (L.take (k + 1)) = some im2 from hvs)
        have HC := Lib.hid (show ((L.take k).map fun p => Value.string p.block) ++ [.string bk] = (L.take (k + 1)).map fun p => Value.string p.block by rw [HTk.out, List.map_append, hbkk]; rfl)
        clear hvs hm hbs hbkk hsz him2 m1 m2 m3 m4 hq
        go_upto_region 9 with (go_at_call 27; refine (HP _).mono ?_; rintro e w2 ⟨rfl, hb⟩)
        have QP2 := Lib.hid (QP.out.below hb QP.out.lt)
        have HO2 := Lib.hid (own_below HO1.out hb)
        have HB2 := Lib.hid (HB1.out.trans (hb.mono HB1.out.size))
        clear hb HP c0 c1 c2 c3 c4 c5
        have HX := Lib.hid (HO2.out.alloc (.cells #[.string bk] 9))
        have HB3 := Lib.hid (HB2.out.alloc HB2.out.size (.cells #[.string bk] 9))
        have QP3 := Lib.hid (QP2.out.alloc (.cells #[.string bk] 9))
        go_upto_region 10 with (at_builtin; refine wpList_append_any _ rfl (.tmp 34) (.tmp 36) _ rfl w.heap.size 9 i0 _ 1 16 Try.underlying57 hi0 hz0 hz1 hz2 rfl (by omega) _ k _ rfl HX.out (w2.heap.size + 1) (some ⟨w2.heap.size, 0, none⟩) 1 1 [.string bk] rfl (reads_own (n := 1) (Blk.new _ _ _) rfl) (by simp [Value.oneCell']) (by unfold maxLen; omega) (by omega) (by have := HB2.out.size; simp; omega) ?_; intro v5 w5 hown5 hg5 hat; clear hat; obtain ⟨A5, c5', rfl, _, _, _⟩ := own_form hown5)
        have hne := own_type HX.out QP3.out (by decide)
        have QP5 := Lib.hid (QP3.out.grown hg5 hne)
        rw [HC.out] at hown5
        have HO5 := Lib.hid hown5
        have HB5 := Lib.hid (HB3.out.grown hg5 HB3.out.size (fun j hj => (HX.out.lt j hj).1))
        clear hown5 hg5 hne
        have c0 := QP5.out.cell 0
        have c1 := QP5.out.cell 1
        have c2 := QP5.out.cell 2
        have c3 := QP5.out.cell 3
        have c4 := QP5.out.cell 4
        have c5 := QP5.out.cell 5
        simp at c0 c1 c2 c3 c4 c5
        go_wp2_with (go_at_call 28; refine (HSt _).mono ?_; rintro e w6 ⟨rfl, hb⟩; have HO6 := Lib.hid (own_below HO5.out hb); have HB6 := Lib.hid (HB5.out.trans (hb.mono HB5.out.size)); clear hb)
        go_roundw
        case rel =>
          first
            | exact ⟨k + 1, im2, A5, c5', by omega, by go_num, rfl, rfl, HV2, hib2, HO6, HB6⟩
            | ((repeat apply Exists.intro); refine ⟨⟨k + 1, im2, A5, c5', ?_, ?_, rfl, rfl, HV2, hib2, HO6, HB6⟩, rfl⟩ <;> first | omega | go_num)
        case measure => simp [intOf]; omega
    · obtain rfl : k = n := by omega
      have hll : L.length = k := HL.out
      have HV1 := Lib.hid (show layL size img L = some im by have := HV.out; rwa [List.take_of_length_le (by omega)] at this)
      have HO1 := Lib.hid (show wr.ownsRow w.heap.size 9 1 (.slice A' k c') k (L.map fun p => Value.string p.block) by have := HO.out; rwa [List.take_of_length_le (by omega)] at this)
      clear HV HO hlt hk
      obtain ⟨E, hE⟩ : ∃ E, E = im.size := ⟨_, rfl⟩
      have hmk := run_make_bytes (P := Try.prog) 60 5 Try.underlying60 infoU8L E (by omega) wr
      obtain ⟨w1, hw1⟩ : ∃ w1, w1 = wr.alloc (.cells (madeCells #[.int .u8 0] E) 5) := ⟨_, rfl⟩
      rw [← hw1] at hmk
      have b1 := BRow.made hw1
      have hb1 : Below wr.heap.size wr w1 := by rw [hw1]; exact (Below.refl _ _).alloc (Nat.le_refl _) _
      have his : img.size ≤ E := by rw [hE]; exact layL_le HV1.out
      obtain ⟨w2, hcp, b2, hb2'⟩ := b1.copy 0 img E E his (by rw [List.length_replicate]; omega)
      have hb2 := hb2' (Nat.le_refl _) hb1
      have B2 := Lib.hid (show BRow w2 wr.heap.size (padL E img) by
        have e : (List.replicate E (0 : UInt8)).take 0 ++ img.data.toList ++ (List.replicate E (0 : UInt8)).drop (0 + img.size) = padL E img := by
          unfold padL
          simp
        rw [← e]
        exact b2)
      have HB2 := Lib.hid hb2
      rw [← hE]
      have HEe := Lib.hid hE
      clear b1 b2 hb1 hb2' hb2 hw1 hE
      go_upto_region 14 with (at_builtin; refine wpList_copy_run _ rfl _ _ _ _ rfl _ _ rfl rfl hcp ?_)
      have HBS := Lib.hid (Reads.of_own HO1.out)
      have HBA := Lib.hid (HB.out.trans (HB2.out.mono HB.out.size))
      have hgE : E ≤ 8796093022208 := by have := HEe.out; omega
      have HgH := Lib.hid HB.out.size
      have HgS := Lib.hid HB2.out.size
      obtain ⟨gB, hgB⟩ : ∃ g, g = wr.heap.size := ⟨_, rfl⟩
      rw [← hgB] at HBS B2 HB2 HgH HgS hcp hmk ⊢
      have hlb : (L.map fun p => Value.string p.block).length = k := by rw [List.length_map, hll]
      have HBp := Lib.hid HB.out
      clear hgB HO1 HB
      go_wp2_with fail
      clear hcp hmk
      obtain ⟨W1, hW1⟩ : ∃ x, x = wr := ⟨_, rfl⟩
      rw [← hW1] at HBp HBS HB2
      clear hW1
      go_loopw [53] (fun i wr => ∃ (j : Nat) (jm : ByteArray), j ≤ k ∧ i = .int .i64 j ∧ Hid (layL size img (L.take j) = some jm) ∧ Hid (BRow wr gB (padL E jm)) ∧ Hid (Below gB W1 wr)) (fun i _ => k - (intOf i).toNat)
      case atStart => exact ⟨0, img, Nat.zero_le _, rfl, Lib.hid rfl, B2, HB2⟩
      case round =>
        obtain ⟨j, jm, hj, rfl, HJ, HBr, HW⟩ := hrel
        by_cases hlt : j < k
        · have HWw := Lib.hid (show Below w.heap.size w wr from HBp.out.trans (HW.out.mono HgH.out))
          obtain ⟨ad, y, rfl, _, hy, _⟩ := page_at (HR.out.below HWw.out) hlt
          have hj0 : (0 : Int) ≤ j := by omega
          have hj1 : (j : Int) < k := by omega
          obtain ⟨d0, d1, d2, d3, d4, d5⟩ := pgcell (HR.out.below HWw.out) hlt hy
          obtain ⟨hm, im', hv1, hv2, hvE⟩ := lay_at HV1.out hy
          obtain rfl : jm = im' := by have := HJ.out; rw [hv1] at this; injection this with this; exact this.symm
          obtain ⟨m1, m2, m3, m4⟩ := may_nat hm
          obtain ⟨z, rfl, hz1', hz2', _⟩ := good_nat m4
          have hbs := (block_right hm).1
          rw [Int.toNat_natCast] at hv2 hvE
          have HS := fun (w : World) => hstart_any z y w (by omega) m3
          obtain ⟨bd, sv, rfl, hbb, hsv, hcb⟩ := (HBS.out.below HW.out).at_ hlt
          rw [List.getElem?_map, hy] at hsv
          injection hsv with hsv
          subst hsv
          replace hcb : wr.cell? (bd.add j) = some (.string y.block) := by simpa using hcb
          obtain ⟨bk, hbkk⟩ : ∃ b, b = y.block := ⟨_, rfl⟩
          rw [← hbkk] at hbs hcb hv2 hvE
          have hsz := writeB_size z y.pg bk jm hbs
          have hmul : y.pg * z ≤ 2147483647 * 4096 := Nat.mul_le_mul (by omega) (by omega)
          have hpw := fun h1 h2 => padL_write (E := E) (img := jm) (p := y.pg) hbs h1 h2
          rw [HEe.out] at hpw
          rw [hsz] at hvE
          have hpw2 := hpw (by omega) (by omega)
          rw [← HEe.out] at hpw2 hvE
          have HV2 := Lib.hid hv2
          obtain ⟨im2, him2⟩ : ∃ x, x = writeB z y.pg bk jm := ⟨_, rfl⟩
          rw [← him2] at hpw2 HV2
          have hjE : jm.size ≤ E := by omega
          obtain ⟨q, hq⟩ : ∃ q, q = y.pg * z := ⟨_, rfl⟩
          rw [← hq] at hvE hpw2 HS
          have hqE : q + z ≤ E := by omega
          have hsl := bsliced gB E q (by omega)
          have HCp := Lib.hid (fun (wx : World) (hb : BRow wx gB (padL E jm)) => hb.copy q bk (E - q) (E - q) (by omega) (by rw [padL_len hjE, hbs]; exact hqE))
          rw [hbs, ← hpw2] at HCp
          have hbz : bk.size = z := hbs
          obtain ⟨pk, pc, pn, pl, pt, pb⟩ := y
          simp only at d0 d1 d2 d3 d4 d5 HS
          have hq0 : (0 : Int) ≤ q := by omega
          have hqi : (q : Int) ≤ E := by omega
          clear hy hm hv1 hv2 m1 m2 m3 m4 hbs hbkk hsz hmul hpw him2 hq hpw2 hvE hjE
          go_upto_region 17 with fail
          obtain ⟨w1, hw1⟩ : ∃ x, x = wr.alloc (.cells #[.int .i64 pk, .int .i64 pc, .int .u32 pn, .int .u32 pl, .int .u64 pt, .string pb] 40) := ⟨_, rfl⟩
          have QP := Lib.hid (show Blk w1 wr.heap.size 40 #[.int .i64 pk, .int .i64 pc, .int .u32 pn, .int .u32 pl, .int .u64 pt, .string pb] by rw [hw1]; exact Blk.new _ _ _)
          have hbw : Below wr.heap.size wr w1 := by rw [hw1]; exact (Below.refl _ _).alloc (Nat.le_refl _) _
          have hgw : gB < wr.heap.size := Blk.lt HBr.out
          have HBr1 := Lib.hid (HBr.out.below hbw hgw)
          have hcb1 := cell_in hcb hbw (Nat.lt_trans hbb hgw)
          have HW1 := Lib.hid (HW.out.trans (hbw.mono (Nat.le_of_lt hgw)))
          have HgW := Lib.hid (show gB < w1.heap.size by have := hbw.size; omega)
          have HbW := Lib.hid (show bd.block < w1.heap.size by have := HgW.out; omega)
          rw [← hw1]
          clear hw1 d0 d1 d2 d3 d4 d5 hcb hbb hbw hgw
          generalize wr.heap.size = gQ at *
          have c0 := QP.out.cell 0
          have c1 := QP.out.cell 1
          have c2 := QP.out.cell 2
          have c3 := QP.out.cell 3
          have c4 := QP.out.cell 4
          have c5 := QP.out.cell 5
          simp at c0 c1 c2 c3 c4 c5
          have HBd := Lib.hid (show BRow w1.drew gB (padL E jm) from HBr1.out)
          have HWd := Lib.hid HW1.out.drew
          have hcbd : w1.drew.cell? (bd.add j) = some (.string bk) := hcb1
          have HgWd := Lib.hid (show gB < w1.drew.heap.size from HgW.out)
          have HbWd := Lib.hid (show bd.block < w1.drew.heap.size from HbW.out)
          go_region_law (first
            | (refine step_copy_ex (by rfl) _ _ _ _ (by rfl) (.slice (some ⟨gB, q, none⟩) (E - q) (E - q)) (.string bk) (by simp [Act.eval, Act.put]) (by simp [Act.eval, Act.put]) (HCp.out _ HBr2.out) ?_; rintro w3 ⟨b3, hb3⟩)
            | (go_simp; refine (HS _).mono ?_; rintro e w2 ⟨rfl, hb⟩; have hcb2 := cell_in hcbd hb HbWd.out; have HBr2 := Lib.hid (HBd.out.below hb HgWd.out); have HW2 := Lib.hid (HWd.out.trans (hb.mono (Nat.le_of_lt HgWd.out))); clear hb; go_simp))
          all_goals
            have HR3 := Lib.hid b3
            have HW3 := Lib.hid (hb3 (Nat.le_refl _) HW2.out)
            clear b3 hb3 HCp hsl hcb1 hcb2 hcbd
            go_wp2_with fail
            go_roundw
            case rel =>
              first
                | exact ⟨j + 1, im2, by omega, by go_num, HV2, HR3, HW3⟩
                | ((repeat apply Exists.intro); refine ⟨⟨j + 1, im2, ?_, ?_, HV2, HR3, HW3⟩, rfl⟩ <;> first | omega | go_num)
            case measure => simp [intOf]; omega
        · obtain rfl : j = k := by omega
          have hji : jm = im := by
            have h1 := HJ.out
            rw [List.take_of_length_le (by omega), HV1.out] at h1
            injection h1 with h1
            exact h1.symm
          subst hji
          have hbr : BRow wr gB jm.data.toList := by rw [← padL_full HEe.out.symm]; exact HBr.out
          have hcv := hbr.str E E (by rw [HEe.out]; exact size_list jm)
          have HFin := Lib.hid (show Below w.heap.size w wr from HBp.out.trans (HW.out.mono HgH.out))
          clear hlt hj hbr
          go_wp2_with fail
          go_ret2
          rw [(lay_yes HV1.out).1, (lay_yes HV1.out).2]
          exact ⟨rfl, HFin.out⟩
end Go.Proofs.Ytabhhccdbfjigaa
