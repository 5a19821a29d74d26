/-
  Contracts of chain.linked, at parts that are strings and at parts that are lists: the pages, each with the next one as its link.
-/
import Derived.Test.YtabhhccdbfjigaaJ31
import Derived.Test.YtabhhccdbfjigaaJ35
import Derived.Test.YtabhhccdbfjigaaJ26
import Derived.Test.YtabhhccdbfjigaaJ24
import Derived.Test.YtabhhccdbfjigaaJ17
import Derived.Deep.CutRange
namespace Go.Proofs.Ytabhhccdbfjigaa
open Go.RowKit
open Go.Lib hiding intOf
set_option linter.unusedVariables false
set_option linter.unusedSimpArgs false
attribute [local go_sem ↓] Go.wp_at_zero Go.wp_at_succ

theorem infoPgL : (Try.prog.info? 40).map (fun i => (i.zero, i.size, i.bytes)) = some (some (.agg #[.int .i64 0, .int .i64 0, .int .u32 0, .int .u32 0, .int .u64 0, .string ByteArray.empty]), 6, 48) := by kernel_rfl
/-- The first pages that f gives, if it gives all of them. -/
def linkG (f : Nat → Option Pg) : Nat → Option (List Pg)
  | 0 => some []
  | k + 1 => match linkG f k, f k with
    | some L, some p => some (L ++ [p])
    | _, _ => none
theorem linkG_none {f : Nat → Option Pg} {k : Nat} (h : linkG f k = none) : ∀ d, linkG f (k + d) = none
  | 0 => h
  | d + 1 => by
    rw [← Nat.add_assoc]
    simp only [linkG, linkG_none h d]
theorem linkG_bad {f : Nat → Option Pg} {k n : Nat} (h : f k = none) (hk : k < n) : linkG f n = none := by
  have h1 : linkG f (k + 1) = none := by
    simp only [linkG, h]
    split
    · rename_i a b c d; cases d
    · rfl
  have := linkG_none h1 (n - (k + 1))
  rwa [show k + 1 + (n - (k + 1)) = n by omega] at this
theorem linkG_len {f : Nat → Option Pg} : ∀ {k : Nat} {L : List Pg}, linkG f k = some L → L.length = k
  | 0, L, h => by simp only [linkG] at h; injection h with h; rw [← h]; rfl
  | k + 1, L, h => by
    simp only [linkG] at h
    split at h
    · rename_i a b c d
      injection h with h
      rw [← h, List.length_append, linkG_len c]
      rfl
    · cases h
/-- All of them are given: the list. -/
theorem linkG_all {f : Nat → Option Pg} {g : Nat → Pg} : ∀ {n : Nat}, (∀ k, k < n → f k = some (g k)) → linkG f n = some ((List.range n).map g)
  | 0, _ => rfl
  | n + 1, h => by
    simp only [linkG, linkG_all (n := n) (fun k hk => h k (by omega)), h n (by omega)]
    rw [List.range_succ, List.map_append]
    rfl
def pgOr (o : Option Pg) : Pg := o.getD Pg.zero
def errOr (o : Option Pg) : Int := if o.isSome then 0 else 2
theorem pg_cells_one (p : Pg) : ∀ u ∈ p.cells, u.oneCell' = true := by
  intro u hu
  simp [Pg.cells] at hu
  rcases hu with rfl | rfl | rfl | rfl | rfl | rfl <;> rfl
def sliceLenL : Value → Nat
  | .slice _ n _ => n
  | _ => 0
set_option maxRecDepth 100000 in
set_option maxHeartbeats 12800000 in
theorem hlinkS_any (size : Int) (tx : Nat) (A : Option Addr) (n c : Nat) (ps : List Nat) (B : Option Addr) (d : Nat) (parts : List ByteArray) (f : Nat → Option Pg) (w : World) (hr : Reads w w.heap.size 1 A n (ucells ps)) (hn : n ≤ 1000000)
    (hps : Reads w w.heap.size 1 B n (parts.map Value.string))
    (hP : ∀ k s W, parts[k]? = some s → Calls Try.prog 47 #[.int .i64 size, .int .u32 (nthU ps k), .int .u32 (nextL ps k), .int .u64 tx, .string s] W fun e w' => e = .returned (.tuple #[.agg #[.int .i64 (pgOr (f k)).kd, .int .i64 (pgOr (f k)).ct, .int .u32 (pgOr (f k)).pg, .int .u32 (pgOr (f k)).lk, .int .u64 (pgOr (f k)).tx, .string (pgOr (f k)).bd], .int .i64 (errOr (f k))]) ∧ Below W.heap.size W w') :
    Calls Try.prog 44 #[.int .i64 size, .int .u64 tx, .slice A n c, .slice B n d, .func (.func 47) #[] #[]] w (PgsPost (linkG f n) w) := by
  obtain ⟨i0, hi, hz0, hz1, hz2⟩ := info_parts infoPgL
  have hpl := ulen hr
  have HR := Lib.hid hr
  have HPs := Lib.hid hps
  have HPg := Lib.hid hP
  clear hr hps hP
  go_enter Try.func44, Try.ntmps44
  go_wp2_with fail
  go_loopw [12, 20] (fun l i wr => ∃ (k : Nat) (A' : Option Addr) (c' : Nat) (L : List Pg), k ≤ n ∧ i = .int .i64 k ∧ l = .slice A' k c' ∧ Hid (linkG f k = some L) ∧ Hid (wr.ownsRow w.heap.size 40 6 (.slice A' k c') k (pgcs L)) ∧ Hid (Below w.heap.size w wr)) (fun _ i _ => n - (intOf i).toNat)
  case atStart => exact ⟨0, none, 0, [], Nat.zero_le _, rfl, rfl, Lib.hid rfl, Lib.hid (World.ownsRow_nil _ _ _ _), Lib.hid (Below.refl _ _)⟩
  case round =>
    obtain ⟨k, A', c', L, hk, rfl, rfl, HL, HO, HB⟩ := hrel
    by_cases hlt : k < n
    rotate_left
    · obtain rfl : k = n := by omega
      have HE := Lib.hid (show linkG f k = some L from HL.out)
      go_wp2_with fail
      go_ret2
      unfold PgsPost
      rw [HE.out]
      exact ⟨A', k, c', rfl, Reads.of_own HO.out, HB.out⟩
    obtain ⟨ad, rfl, hab, hc⟩ := ureads_at (HR.out.below HB.out) hlt
    obtain ⟨bd, sv, rfl, hbb, hsv, hcb⟩ := (HPs.out.below HB.out).at_ hlt
    rw [List.getElem?_map, Option.map_eq_some_iff] at hsv
    obtain ⟨s, hs, rfl⟩ := hsv
    have hj0 : (0 : Int) ≤ k := by omega
    have hj1 : (k : Int) < n := by omega
    have hw1 : wrap64 ((k : Int) + 1) = (k : Int) + 1 := by unfold wrap64; omega
    have HP := Lib.hid (fun W => HPg.out k s W hs)
    obtain ⟨nx, hnx⟩ : ∃ nx, nx = nextL ps k := ⟨_, rfl⟩
    obtain ⟨o, ho⟩ : ∃ o, o = f k := ⟨_, rfl⟩
    rw [← hnx, ← ho] at HP
    obtain ⟨q, hq⟩ : ∃ q, q = pgOr o := ⟨_, rfl⟩
    obtain ⟨x, hx⟩ : ∃ x, x = errOr o := ⟨_, rfl⟩
    rw [← hq, ← hx] at HP
    have HQ := Lib.hid hq
    have HX := Lib.hid hx
    have HOf := Lib.hid ho
    obtain ⟨qk, qc, qp, ql, qt, qb⟩ := q
    dsimp only at HP
    have HNx := Lib.hid hnx
    clear hq hx ho hnx
    obtain ⟨pn, hpn⟩ : ∃ pn, pn = nthU ps k := ⟨_, rfl⟩
    rw [← hpn] at HP hc
    clear hpn
    go_upto_if 29 with fail
    go_cut [15] from 57 (fun s15 wc => s15 = .int .u32 nx ∧ wc = wr)
    case first =>
      by_cases hkn : k + 1 < n
      · obtain ⟨ad', hA, _, hc2⟩ := ureads_at (HR.out.below HB.out) hkn
        injection hA with hA
        subst hA
        have hnv : nx = nthU ps (k + 1) := by rw [HNx.out]; unfold nextL; rw [if_pos (by omega)]
        rw [← hnv] at hc2
        have hadd : ad.add (k + 1) = ⟨ad.block, ad.off + (k + 1), none⟩ := by unfold Addr.add; rw [if_neg (by omega)]
        have hc3 : wr.cell? { block := ad.block, off := ad.off + (k + 1) } = some (.int .u32 nx) := by rw [hadd] at hc2; exact hc2
        clear hadd
        clear hnv
        have hk1 : (k : Int) + 1 < n := by omega
        have hk2 : (0 : Int) ≤ (k : Int) + 1 := by omega
        have hk3 : decide ((k : Int) + 1 < (n : Int)) = true := decide_eq_true hk1
        go_wp2_with fail
        go_meet
        case rel => exact ⟨rfl, rfl⟩
      · have hnv : nx = 0 := by rw [HNx.out]; unfold nextL; rw [if_neg (by omega)]
        subst hnv
        have hk3 : decide ((k : Int) + 1 < (n : Int)) = false := by simp; omega
        go_wp2_with fail
        go_meet
        case rel => exact ⟨rfl, rfl⟩
    case rest =>
      obtain ⟨rfl, rfl⟩ := hcut
      rcases o with _ | p
      · have hxz : x = 2 := HX.out
        subst hxz
        have HNo := Lib.hid (linkG_bad HOf.out.symm hlt)
        go_wp2_with (go_at_call 47; refine (HP.out _).mono ?_; rintro e w2 ⟨rfl, hb2⟩)
        go_ret2
        unfold PgsPost
        rw [HNo.out]
        exact ⟨rfl, (HB.out.trans (hb2.mono HB.out.size)).alloc (Nat.le_trans HB.out.size hb2.size) _⟩
      · have hxz : x = 0 := HX.out
        subst hxz
        have HYes := Lib.hid (show linkG f (k + 1) = some (L ++ [⟨qk, qc, qp, ql, qt, qb⟩]) by
          have h1 : p = ⟨qk, qc, qp, ql, qt, qb⟩ := HQ.out.symm
          rw [← h1]
          simp only [linkG, HL.out, ← HOf.out])
        go_upto_region 11 with (go_at_call 47; refine (HP.out _).mono ?_; rintro e w2 ⟨rfl, hb2⟩)
        obtain ⟨w3, hw3⟩ : ∃ x, x = w2.alloc (.cells #[.int .i64 qk, .int .i64 qc, .int .u32 qp, .int .u32 ql, .int .u64 qt, .string qb] 40) := ⟨_, rfl⟩
        have QP := Lib.hid (show Blk w3 w2.heap.size 40 #[.int .i64 qk, .int .i64 qc, .int .u32 qp, .int .u32 ql, .int .u64 qt, .string qb] by rw [hw3]; exact Blk.new _ _ _)
        have HO3 := Lib.hid (show w3.ownsRow w.heap.size 40 6 (.slice A' k c') k (pgcs L) by rw [hw3]; exact (own_below HO.out hb2).alloc _)
        have HB3 := Lib.hid (show Below w.heap.size w w3 by rw [hw3]; exact (HB.out.trans (hb2.mono HB.out.size)).alloc (Nat.le_trans HB.out.size hb2.size) _)
        rw [← hw3]
        clear hw3 hb2 HO HB HP hc hab hcb
        generalize w2.heap.size = gQ at *
        have c0 := QP.out.cell 0
        have c1 := QP.out.cell 1
        have c2 := QP.out.cell 2
        have c3 := QP.out.cell 3
        have c4 := QP.out.cell 4
        have c5 := QP.out.cell 5
        simp at c0 c1 c2 c3 c4 c5
        have HBX := Lib.hid (HB3.out.alloc HB3.out.size (.cells #[.int .i64 qk, .int .i64 qc, .int .u32 qp, .int .u32 ql, .int .u64 qt, .string qb] 40))
        have hsz := HB3.out.size
        go_wp2_with (at_builtin; refine wpList_append_any _ rfl (.tmp 51) (.tmp 53) _ rfl w.heap.size 40 i0 _ 6 48 Try.underlying24 hi hz0 hz1 hz2 rfl (by omega) _ k _ rfl (HO3.out.alloc _) (w3.heap.size + 1) (some ⟨w3.heap.size, 0, none⟩) 1 1 (Pg.cells ⟨qk, qc, qp, ql, qt, qb⟩) rfl (reads_own (n := 1) (Blk.new _ _ _) rfl) (pg_cells_one _) (by unfold maxLen; omega) (by omega) (by simp; omega) ?_; intro v5 w5 hown5 hg5 hat; obtain ⟨A5, c5', rfl, _, _, _⟩ := own_form hown5)
        clear hat
        have hB5 := HBX.out.grown hg5 HBX.out.size (own_base (HO3.out.alloc (.cells #[.int .i64 qk, .int .i64 qc, .int .u32 qp, .int .u32 ql, .int .u64 qt, .string qb] 40)))
        rw [pgcs_snoc] at hown5
        have HO5 := Lib.hid hown5
        have HB5 := Lib.hid hB5
        clear hown5 hB5 hg5
        go_roundw
        case rel =>
          first
            | exact ⟨k + 1, A5, c5', _, by omega, by go_num, rfl, HYes, HO5, HB5⟩
            | ((repeat apply Exists.intro); refine ⟨⟨k + 1, A5, c5', _, ?_, ?_, rfl, HYes, HO5, HB5⟩, rfl⟩ <;> first | omega | go_num)
        case measure => simp [intOf]; omega
set_option maxRecDepth 100000 in
set_option maxHeartbeats 12800000 in
theorem hlinkL_any (size : Int) (tx : Nat) (A : Option Addr) (n c : Nat) (ps : List Nat) (B : Option Addr) (d : Nat) (cs : List Value) (ls : List (List Nat)) (f : Nat → Option Pg) (w : World) (hr : Reads w w.heap.size 1 A n (ucells ps)) (hn : n ≤ 1000000)
    (hps : Reads w w.heap.size 1 B n cs) (hls : LsRead w cs ls)
    (hP : ∀ k A1 n1 c1 l W, ls[k]? = some l → Reads W W.heap.size 1 A1 n1 (ucells l) → Calls Try.prog 41 #[.int .i64 size, .int .u32 (nthU ps k), .int .u32 (nextL ps k), .int .u64 tx, .slice A1 n1 c1] W fun e w' => e = .returned (.tuple #[.agg #[.int .i64 (pgOr (f k)).kd, .int .i64 (pgOr (f k)).ct, .int .u32 (pgOr (f k)).pg, .int .u32 (pgOr (f k)).lk, .int .u64 (pgOr (f k)).tx, .string (pgOr (f k)).bd], .int .i64 (errOr (f k))]) ∧ Below W.heap.size W w') :
    Calls Try.prog 38 #[.int .i64 size, .int .u64 tx, .slice A n c, .slice B n d, .func (.func 41) #[] #[]] w (PgsPost (linkG f n) w) := by
  obtain ⟨i0, hi, hz0, hz1, hz2⟩ := info_parts infoPgL
  have hpl := ulen hr
  have HR := Lib.hid hr
  have HPs := Lib.hid hps
  have HPg := Lib.hid hP
  have HLs := Lib.hid hls
  have hcsn : cs.length = n := by have := hps.1; omega
  have hln : ls.length = n := by rw [← hls.1]; exact hcsn
  clear hls hcsn
  clear hr hps hP
  go_enter Try.func38, Try.ntmps38
  go_wp2_with fail
  go_loopw [12, 20] (fun l i wr => ∃ (k : Nat) (A' : Option Addr) (c' : Nat) (L : List Pg), k ≤ n ∧ i = .int .i64 k ∧ l = .slice A' k c' ∧ Hid (linkG f k = some L) ∧ Hid (wr.ownsRow w.heap.size 40 6 (.slice A' k c') k (pgcs L)) ∧ Hid (Below w.heap.size w wr)) (fun _ i _ => n - (intOf i).toNat)
  case atStart => exact ⟨0, none, 0, [], Nat.zero_le _, rfl, rfl, Lib.hid rfl, Lib.hid (World.ownsRow_nil _ _ _ _), Lib.hid (Below.refl _ _)⟩
  case round =>
    obtain ⟨k, A', c', L, hk, rfl, rfl, HL, HO, HB⟩ := hrel
    by_cases hlt : k < n
    rotate_left
    · obtain rfl : k = n := by omega
      have HE := Lib.hid (show linkG f k = some L from HL.out)
      go_wp2_with fail
      go_ret2
      unfold PgsPost
      rw [HE.out]
      exact ⟨A', k, c', rfl, Reads.of_own HO.out, HB.out⟩
    obtain ⟨ad, rfl, hab, hc⟩ := ureads_at (HR.out.below HB.out) hlt
    obtain ⟨bd, sv, rfl, hbb, hsv, hcb⟩ := (HPs.out.below HB.out).at_ hlt
    obtain ⟨l, hll⟩ : ∃ l, ls[k]? = some l := ⟨_, List.getElem?_eq_getElem (by omega)⟩
    obtain ⟨A1, n1, c1, rfl, hr1⟩ := HLs.out.2 k _ l hsv hll
    have HR1 := Lib.hid ((hr1.below HB.out).more HB.out.size)
    clear hr1 hsv
    have hj0 : (0 : Int) ≤ k := by omega
    have hj1 : (k : Int) < n := by omega
    have hw1 : wrap64 ((k : Int) + 1) = (k : Int) + 1 := by unfold wrap64; omega
    have HP := Lib.hid (fun W h => HPg.out k A1 n1 c1 l W hll h)
    obtain ⟨nx, hnx⟩ : ∃ nx, nx = nextL ps k := ⟨_, rfl⟩
    obtain ⟨o, ho⟩ : ∃ o, o = f k := ⟨_, rfl⟩
    rw [← hnx, ← ho] at HP
    obtain ⟨q, hq⟩ : ∃ q, q = pgOr o := ⟨_, rfl⟩
    obtain ⟨x, hx⟩ : ∃ x, x = errOr o := ⟨_, rfl⟩
    rw [← hq, ← hx] at HP
    have HQ := Lib.hid hq
    have HX := Lib.hid hx
    have HOf := Lib.hid ho
    obtain ⟨qk, qc, qp, ql, qt, qb⟩ := q
    dsimp only at HP
    have HNx := Lib.hid hnx
    clear hq hx ho hnx
    obtain ⟨pn, hpn⟩ : ∃ pn, pn = nthU ps k := ⟨_, rfl⟩
    rw [← hpn] at HP hc
    clear hpn
    go_upto_if 29 with fail
    go_cut [15] from 57 (fun s15 wc => s15 = .int .u32 nx ∧ wc = wr)
    case first =>
      by_cases hkn : k + 1 < n
      · obtain ⟨ad', hA, _, hc2⟩ := ureads_at (HR.out.below HB.out) hkn
        injection hA with hA
        subst hA
        have hnv : nx = nthU ps (k + 1) := by rw [HNx.out]; unfold nextL; rw [if_pos (by omega)]
        rw [← hnv] at hc2
        have hadd : ad.add (k + 1) = ⟨ad.block, ad.off + (k + 1), none⟩ := by unfold Addr.add; rw [if_neg (by omega)]
        have hc3 : wr.cell? { block := ad.block, off := ad.off + (k + 1) } = some (.int .u32 nx) := by rw [hadd] at hc2; exact hc2
        clear hadd
        clear hnv
        have hk1 : (k : Int) + 1 < n := by omega
        have hk2 : (0 : Int) ≤ (k : Int) + 1 := by omega
        have hk3 : decide ((k : Int) + 1 < (n : Int)) = true := decide_eq_true hk1
        go_wp2_with fail
        go_meet
        case rel => exact ⟨rfl, rfl⟩
      · have hnv : nx = 0 := by rw [HNx.out]; unfold nextL; rw [if_neg (by omega)]
        subst hnv
        have hk3 : decide ((k : Int) + 1 < (n : Int)) = false := by simp; omega
        go_wp2_with fail
        go_meet
        case rel => exact ⟨rfl, rfl⟩
    case rest =>
      obtain ⟨rfl, rfl⟩ := hcut
      rcases o with _ | p
      · have hxz : x = 2 := HX.out
        subst hxz
        have HNo := Lib.hid (linkG_bad HOf.out.symm hlt)
        go_wp2_with (go_at_call 41; refine (HP.out _ HR1.out).mono ?_; rintro e w2 ⟨rfl, hb2⟩)
        go_ret2
        unfold PgsPost
        rw [HNo.out]
        exact ⟨rfl, (HB.out.trans (hb2.mono HB.out.size)).alloc (Nat.le_trans HB.out.size hb2.size) _⟩
      · have hxz : x = 0 := HX.out
        subst hxz
        have HYes := Lib.hid (show linkG f (k + 1) = some (L ++ [⟨qk, qc, qp, ql, qt, qb⟩]) by
          have h1 : p = ⟨qk, qc, qp, ql, qt, qb⟩ := HQ.out.symm
          rw [← h1]
          simp only [linkG, HL.out, ← HOf.out])
        go_upto_region 11 with (go_at_call 41; refine (HP.out _ HR1.out).mono ?_; rintro e w2 ⟨rfl, hb2⟩)
        obtain ⟨w3, hw3⟩ : ∃ x, x = w2.alloc (.cells #[.int .i64 qk, .int .i64 qc, .int .u32 qp, .int .u32 ql, .int .u64 qt, .string qb] 40) := ⟨_, rfl⟩
        have QP := Lib.hid (show Blk w3 w2.heap.size 40 #[.int .i64 qk, .int .i64 qc, .int .u32 qp, .int .u32 ql, .int .u64 qt, .string qb] by rw [hw3]; exact Blk.new _ _ _)
        have HO3 := Lib.hid (show w3.ownsRow w.heap.size 40 6 (.slice A' k c') k (pgcs L) by rw [hw3]; exact (own_below HO.out hb2).alloc _)
        have HB3 := Lib.hid (show Below w.heap.size w w3 by rw [hw3]; exact (HB.out.trans (hb2.mono HB.out.size)).alloc (Nat.le_trans HB.out.size hb2.size) _)
        rw [← hw3]
        clear hw3 hb2 HO HB HP hc hab hcb
        generalize w2.heap.size = gQ at *
        have c0 := QP.out.cell 0
        have c1 := QP.out.cell 1
        have c2 := QP.out.cell 2
        have c3 := QP.out.cell 3
        have c4 := QP.out.cell 4
        have c5 := QP.out.cell 5
        simp at c0 c1 c2 c3 c4 c5
        have HBX := Lib.hid (HB3.out.alloc HB3.out.size (.cells #[.int .i64 qk, .int .i64 qc, .int .u32 qp, .int .u32 ql, .int .u64 qt, .string qb] 40))
        have hsz := HB3.out.size
        go_wp2_with (at_builtin; refine wpList_append_any _ rfl (.tmp 51) (.tmp 53) _ rfl w.heap.size 40 i0 _ 6 48 Try.underlying24 hi hz0 hz1 hz2 rfl (by omega) _ k _ rfl (HO3.out.alloc _) (w3.heap.size + 1) (some ⟨w3.heap.size, 0, none⟩) 1 1 (Pg.cells ⟨qk, qc, qp, ql, qt, qb⟩) rfl (reads_own (n := 1) (Blk.new _ _ _) rfl) (pg_cells_one _) (by unfold maxLen; omega) (by omega) (by simp; omega) ?_; intro v5 w5 hown5 hg5 hat; obtain ⟨A5, c5', rfl, _, _, _⟩ := own_form hown5)
        clear hat
        have hB5 := HBX.out.grown hg5 HBX.out.size (own_base (HO3.out.alloc (.cells #[.int .i64 qk, .int .i64 qc, .int .u32 qp, .int .u32 ql, .int .u64 qt, .string qb] 40)))
        rw [pgcs_snoc] at hown5
        have HO5 := Lib.hid hown5
        have HB5 := Lib.hid hB5
        clear hown5 hB5 hg5
        go_roundw
        case rel =>
          first
            | exact ⟨k + 1, A5, c5', _, by omega, by go_num, rfl, HYes, HO5, HB5⟩
            | ((repeat apply Exists.intro); refine ⟨⟨k + 1, A5, c5', _, ?_, ?_, rfl, HYes, HO5, HB5⟩, rfl⟩ <;> first | omega | go_num)
        case measure => simp [intOf]; omega
end Go.Proofs.Ytabhhccdbfjigaa

