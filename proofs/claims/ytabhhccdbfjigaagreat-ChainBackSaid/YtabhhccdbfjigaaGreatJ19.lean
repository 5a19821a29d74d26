/-
  Texts that the main proof rests on, put together: Ref11, Ref6May. No statement is proved here.
-/
import Derived.Test.YtabhhccdbfjigaaGreatJ12
import Derived.Test.YtabhhccdbfjigaaGreatJ17
import Derived.Test.YtabhhccdbfjigaaGreatJ7
import Derived.Test.YtabhhccdbfjigaaGreatJ18
import Derived.Deep.CutRange
import Derived.Test.YtabhhccdbfjigaaGreatJ14
import Derived.Deep.QuietTactic
import Derived.BigQuiet
namespace Go.Proofs.YtabhhccdbfjigaaGreat
open Go.RowKit
open Go.Lib hiding intOf
set_option linter.unusedVariables false
set_option linter.unusedSimpArgs false
attribute [local go_sem ↓] Go.wp_at_zero Go.wp_at_succ

theorem infoLk : (Tryz.prog.info? 39).map (fun i => (i.zero, i.size, i.bytes)) = some (some (.agg #[.int .i64 0, .int .i64 0, .int .u32 0, .int .u32 0, .int .u64 0, .string ByteArray.empty, .int .i64 0]), 7, 56) := by kernel_rfl
theorem lkc_one (l : List Lk) : ∀ u ∈ lkc l, u.oneCell' = true := by
  intro u hu
  unfold lkc rowsOf at hu
  obtain ⟨b, _, hb⟩ := List.mem_flatMap.1 hu
  simp [Lk.cells] at hb
  rcases hb with rfl | rfl | rfl | rfl | rfl | rfl | rfl <;> rfl
theorem lk_one (b : Lk) : ∀ u ∈ b.cells, u.oneCell' = true := fun u hu => lkc_one [b] u (by simpa [lkc, rowsOf] using hu)
theorem map_lk_at {L : List Pg} {i : Nat} {x : Lk} (h : (L.map (fun p => (⟨p, 0⟩ : Lk)))[i]? = some x) : ∃ p, L[i]? = some p ∧ x = ⟨p, 0⟩ := by
  rw [List.getElem?_map, Option.map_eq_some_iff] at h
  obtain ⟨p, h1, rfl⟩ := h
  exact ⟨p, h1, rfl⟩
theorem wasIn_take {L : List Pg} {i h : Nat} {p : Pg} (hp : L[i]? = some p) : wasIn (L.take (i + 1)) h = (wasIn (L.take i) h || decide (p.pg = h)) := by
  obtain ⟨h1, h2⟩ := List.getElem?_eq_some_iff.1 hp
  rw [List.take_succ_eq_append_getElem h1, h2, wasIn_append]
  unfold wasIn
  simp
def sliceLen : Value → Nat
  | .slice _ n _ => n
  | _ => 0
set_option maxRecDepth 100000 in
set_option maxHeartbeats 25600000 in
theorem rfollow_any (size : Int) (s : ByteArray) (head : Nat) (kd : Int) (w : World) (hs : s.size ≤ 1000000) (hh : head < 4294967296) :
    Calls Tryz.prog 13 #[.int .i64 size, .string s, .int .u32 head, .int .i64 kd] w fun e w' => ∃ A n c, e = .returned (.slice A n c) ∧ Reads w' w'.heap.size 7 A n (lkc (followL size s kd head)) ∧ Below w.heap.size w w' := by
  obtain ⟨i0, hi0, hz0, hz1, hz2⟩ := info_parts infoLk
  obtain ⟨hzp, hi⟩ := zero_of_info infoPg
  have HI := Lib.hid hi
  have HS := Lib.hid hs
  clear hi hs
  go_enter Tryz.func13, Tryz.ntmps13
  go_wp2_with fail
  go_loopw [2, 9] (fun h o wr => ∃ (k hd : Nat) (L : List Pg) (A : Option Addr) (c : Nat), Hid (along size s kd head k = (L, hd)) ∧ Hid (L.length = k) ∧ Hid (k ≤ s.size) ∧ hd < 4294967296 ∧ h = .int .u32 hd ∧ o = .slice A k c ∧ Hid (wr.ownsRow w.heap.size 39 7 (.slice A k c) k (lkc (L.map fun p => (⟨p, 0⟩ : Lk)))) ∧ Hid (Below w.heap.size w wr)) (fun _ o _ => s.size - sliceLen o)
  case atStart => exact ⟨0, head, [], none, 0, Lib.hid rfl, Lib.hid rfl, Lib.hid (Nat.zero_le _), hh, rfl, rfl, Lib.hid (World.ownsRow_nil _ _ _ _), Lib.hid (Below.refl _ _)⟩
  case round =>
    obtain ⟨k, hd, L, A, c, HAl, HLl, HK9, hd9, rfl, rfl, HO, HB⟩ := hrel
    have hk9 : k ≤ 1000000 := Nat.le_trans HK9.out HS.out
    by_cases h0 : hd = 0
    · subst h0
      obtain ⟨hc1, hc2⟩ := chain_end HK9.out HAl.out goes_zero
      have HE := Lib.hid (show followL size s kd head = L.map fun p => (⟨p, 0⟩ : Lk) by rw [followL, hc1, hc2]; simp)
      clear hc1 hc2
      go_wp2_with fail
      go_ret
      exact ⟨A, k, c, rfl, by rw [HE.out]; exact Reads.of_own HO.out, HB.out⟩
    have hn1 : ((hd : Int) != 0) = true := by simp; omega
    have hn2 : (hd != 0) = true := by simp; omega
    have HRd := fun (w : World) => rread_all size s hd w (Nat.le_trans HS.out (by decide)) hd9
    obtain ⟨x, hx⟩ : ∃ x, x = errAt size s hd := ⟨_, rfl⟩
    obtain ⟨q, hq⟩ : ∃ q, q = pageOf size s hd := ⟨_, rfl⟩
    have hgo : goes size s kd L hd = (if (decide (x ≠ 0) || (decide (hd < 2) || decide (q.kd ≠ kd))) || wasIn L hd then none else some q) := by
      rcases hr : readAt size s hd with _ | p
      · rw [goes_bad hr, decide_eq_true (by rw [hx]; exact (errAt_none hr).1 : x ≠ 0)]
        simp
      · rw [goes_is hr, hx, hq, (errAt_some hr).1, (errAt_some hr).2]
        simp
    have hql : goes size s kd L hd = some q → q.lk < 4294967296 := fun h => by
      have h2 := readAt_some (goes_some h).2.2.1
      have h3 := h2.2.2.2
      simp only [mayPg, Bool.and_eq_true, decide_eq_true_eq] at h3
      omega
    rw [← hx, ← hq] at HRd
    have HGo := Lib.hid hgo
    have HQl := Lib.hid hql
    have HQp := Lib.hid hq
    obtain ⟨qk, qc, qp, ql, qt, qb⟩ := q
    simp only [Pg.agg] at HRd
    clear hx hq hgo hql h0
    go_wp2_with fail
    refine (HRd _).mono ?_
    rintro e w2 ⟨rfl, hb⟩
    replace HB := Lib.hid (HB.out.trans (hb.mono HB.out.size))
    replace HO := Lib.hid (own_below HO.out hb)
    clear hb HRd
    obtain ⟨w3, hw3⟩ : ∃ x, x = w2.alloc (.cells #[.int .i64 qk, .int .i64 qc, .int .u32 qp, .int .u32 ql, .int .u64 qt, .string qb] 37) := ⟨_, rfl⟩
    have Qp := Lib.hid (show Blk w3 w2.heap.size 37 #[.int .i64 qk, .int .i64 qc, .int .u32 qp, .int .u32 ql, .int .u64 qt, .string qb] by rw [hw3]; exact Blk.new _ _ _)
    replace HB := Lib.hid (show Below w.heap.size w w3 by rw [hw3]; exact HB.out.alloc HB.out.size _)
    replace HO := Lib.hid (show w3.ownsRow w.heap.size 39 7 (.slice A k c) k (lkc (L.map fun p => (⟨p, 0⟩ : Lk))) by rw [hw3]; exact HO.out.alloc _)
    go_upto_region 4 with fail
    rw [← hw3]
    clear hw3
    have RO := Lib.hid (Reads.of_own HO.out)
    generalize w2.heap.size = gQ at *
    have c0 := Qp.out.cell 0
    have c1 := Qp.out.cell 1
    have c2 := Qp.out.cell 2
    have c3 := Qp.out.cell 3
    have c4 := Qp.out.cell 4
    have c5 := Qp.out.cell 5
    simp at c0 c1 c2 c3 c4 c5
    by_cases hx : x = 0
    rotate_left
    · have hwhy := hx
      have z1 : (x != 0) = true := by simp [hx]
      have z2 : (x == 0) = false := by simp [hx]
      go_wp2_with fail
      obtain ⟨wo, hwo⟩ : ∃ wo, wo = wr := ⟨_, rfl⟩
      subst hwo
      go_loopw [12, 13] (fun b i wr => ∃ j : Nat, j ≤ k ∧ i = .int .i64 j ∧ b = .bool (true || wasIn (L.take j) hd) ∧ wr = w3) (fun _ i _ => k - (intOf i).toNat)
      case atStart => exact ⟨0, Nat.zero_le _, rfl, rfl, rfl⟩
      case round =>
        obtain ⟨j, hj, rfl, rfl, rfl⟩ := hrel
        by_cases hlt : j < k
        · obtain ⟨ad, y, rfl, hab, hy7, hy8⟩ := link_at RO.out hlt
          obtain ⟨p, hp, rfl⟩ := map_lk_at hy7
          obtain ⟨⟨_, _, d2, _, _, _⟩, _⟩ := hy8
          have hj0 : (0 : Int) ≤ j := by omega
          have hj1 : (j : Int) < k := by omega
          have HT := Lib.hid (wasIn_take (h := hd) hp)
          obtain ⟨pp, hpp⟩ : ∃ pp, pp = p.pg := ⟨_, rfl⟩
          replace d2 : wr.cell? ⟨(ad.add (j * 7)).block, (ad.add (j * 7)).off + 2, none⟩ = some (.int .u32 pp) := by rw [hpp]; exact d2
          rw [← hpp] at HT
          clear hab hy7 hpp hp
          simp only [Bool.true_or]
          go_wp2_with fail
          go_roundw
          case rel =>
            first
              | exact ⟨j + 1, by omega, by go_num, by simp, by trivial⟩
              | ((repeat apply Exists.intro); exact ⟨⟨j + 1, by omega, by go_num, by simp, by trivial⟩, rfl⟩)
          case measure => simp [intOf]; omega
        · obtain rfl : j = k := by omega
          have ht : L.take j = L := List.take_of_length_le (by rw [HLl.out]; exact Nat.le_refl _)
          rw [ht]
          clear ht hlt hj RO
          have HGn := Lib.hid (show goes size s kd L hd = none by rw [HGo.out]; simp [hwhy])
          simp only [Bool.true_or]
          obtain ⟨hc1, hc2⟩ := chain_end HK9.out HAl.out HGn.out
          have hhd : ¬ hd = 0 := by intro h; rw [h] at hn2; simp at hn2
          have HE := Lib.hid (show followL size s kd head = (L.map fun p => (⟨p, 0⟩ : Lk)) ++ [⟨Pg.zero, 4⟩] by rw [followL, hc1, hc2, decide_eq_false hhd]; rfl)
          clear hc1 hc2 hhd
          have HX := Lib.hid (HO.out.alloc (.cells #[.int .i64 0, .int .i64 0, .int .u32 0, .int .u32 0, .int .u64 0, .string ByteArray.empty, .int .i64 4] 39))
          have HBX := Lib.hid (HB.out.alloc HB.out.size (.cells #[.int .i64 0, .int .i64 0, .int .u32 0, .int .u32 0, .int .u64 0, .string ByteArray.empty, .int .i64 4] 39))
          go_wp2_with (at_builtin; refine wpList_append_any _ rfl (.tmp 53) (.tmp 55) _ rfl w.heap.size 39 i0 _ 7 56 Tryz.underlying30 hi0 hz0 hz1 hz2 rfl (by omega) _ j _ rfl HX.out (wr.heap.size + 1) (some ⟨wr.heap.size, 0, none⟩) 1 1 (Lk.cells ⟨Pg.zero, 4⟩) rfl (reads_own (n := 1) (Blk.new _ _ _) rfl) (lk_one _) (by unfold maxLen; omega) (by omega) (by have := HB.out.size; simp; omega) ?_; intro v5 w5 hown5 hg5 hat)
          clear hat
          go_ret
          rw [lkc_snoc] at hown5
          obtain ⟨A5, c5, rfl, _, _, _⟩ := own_form hown5
          exact ⟨A5, _, c5, rfl, by rw [HE.out]; exact Reads.of_own hown5, HBX.out.grown hg5 HBX.out.size (fun g hg => (HX.out.lt g hg).1)⟩
    by_cases hy : hd < 2
    · have hwhy := hy
      have z1 : (x != 0) = false := by simp [hx]
      have z2 : (x == 0) = true := by simp [hx]
      have z3 : decide ((hd : Int) < 2) = true := by simp; omega
      have z4 : decide (hd < 2) = true := decide_eq_true hy
      go_wp2_with fail
      obtain ⟨wo, hwo⟩ : ∃ wo, wo = wr := ⟨_, rfl⟩
      subst hwo
      go_loopw [12, 13] (fun b i wr => ∃ j : Nat, j ≤ k ∧ i = .int .i64 j ∧ b = .bool (true || wasIn (L.take j) hd) ∧ wr = w3) (fun _ i _ => k - (intOf i).toNat)
      case atStart => exact ⟨0, Nat.zero_le _, rfl, rfl, rfl⟩
      case round =>
        obtain ⟨j, hj, rfl, rfl, rfl⟩ := hrel
        by_cases hlt : j < k
        · obtain ⟨ad, y, rfl, hab, hy7, hy8⟩ := link_at RO.out hlt
          obtain ⟨p, hp, rfl⟩ := map_lk_at hy7
          obtain ⟨⟨_, _, d2, _, _, _⟩, _⟩ := hy8
          have hj0 : (0 : Int) ≤ j := by omega
          have hj1 : (j : Int) < k := by omega
          have HT := Lib.hid (wasIn_take (h := hd) hp)
          obtain ⟨pp, hpp⟩ : ∃ pp, pp = p.pg := ⟨_, rfl⟩
          replace d2 : wr.cell? ⟨(ad.add (j * 7)).block, (ad.add (j * 7)).off + 2, none⟩ = some (.int .u32 pp) := by rw [hpp]; exact d2
          rw [← hpp] at HT
          clear hab hy7 hpp hp
          simp only [Bool.true_or]
          go_wp2_with fail
          go_roundw
          case rel =>
            first
              | exact ⟨j + 1, by omega, by go_num, by simp, by trivial⟩
              | ((repeat apply Exists.intro); exact ⟨⟨j + 1, by omega, by go_num, by simp, by trivial⟩, rfl⟩)
          case measure => simp [intOf]; omega
        · obtain rfl : j = k := by omega
          have ht : L.take j = L := List.take_of_length_le (by rw [HLl.out]; exact Nat.le_refl _)
          rw [ht]
          clear ht hlt hj RO
          have HGn := Lib.hid (show goes size s kd L hd = none by rw [HGo.out]; simp [hwhy])
          simp only [Bool.true_or]
          obtain ⟨hc1, hc2⟩ := chain_end HK9.out HAl.out HGn.out
          have hhd : ¬ hd = 0 := by intro h; rw [h] at hn2; simp at hn2
          have HE := Lib.hid (show followL size s kd head = (L.map fun p => (⟨p, 0⟩ : Lk)) ++ [⟨Pg.zero, 4⟩] by rw [followL, hc1, hc2, decide_eq_false hhd]; rfl)
          clear hc1 hc2 hhd
          have HX := Lib.hid (HO.out.alloc (.cells #[.int .i64 0, .int .i64 0, .int .u32 0, .int .u32 0, .int .u64 0, .string ByteArray.empty, .int .i64 4] 39))
          have HBX := Lib.hid (HB.out.alloc HB.out.size (.cells #[.int .i64 0, .int .i64 0, .int .u32 0, .int .u32 0, .int .u64 0, .string ByteArray.empty, .int .i64 4] 39))
          go_wp2_with (at_builtin; refine wpList_append_any _ rfl (.tmp 53) (.tmp 55) _ rfl w.heap.size 39 i0 _ 7 56 Tryz.underlying30 hi0 hz0 hz1 hz2 rfl (by omega) _ j _ rfl HX.out (wr.heap.size + 1) (some ⟨wr.heap.size, 0, none⟩) 1 1 (Lk.cells ⟨Pg.zero, 4⟩) rfl (reads_own (n := 1) (Blk.new _ _ _) rfl) (lk_one _) (by unfold maxLen; omega) (by omega) (by have := HB.out.size; simp; omega) ?_; intro v5 w5 hown5 hg5 hat)
          clear hat
          go_ret
          rw [lkc_snoc] at hown5
          obtain ⟨A5, c5, rfl, _, _, _⟩ := own_form hown5
          exact ⟨A5, _, c5, rfl, by rw [HE.out]; exact Reads.of_own hown5, HBX.out.grown hg5 HBX.out.size (fun g hg => (HX.out.lt g hg).1)⟩
    by_cases hz : qk = kd
    rotate_left
    · have hwhy := hz
      have z1 : (x != 0) = false := by simp [hx]
      have z2 : (x == 0) = true := by simp [hx]
      have z3 : decide ((hd : Int) < 2) = false := by simp; omega
      have z4 : decide (hd < 2) = false := decide_eq_false hy
      have z5 : (qk != kd) = true := by simp [hz]
      have z6 : (qk == kd) = false := by simp [hz]
      go_wp2_with fail
      obtain ⟨wo, hwo⟩ : ∃ wo, wo = wr := ⟨_, rfl⟩
      subst hwo
      go_loopw [12, 13] (fun b i wr => ∃ j : Nat, j ≤ k ∧ i = .int .i64 j ∧ b = .bool (true || wasIn (L.take j) hd) ∧ wr = w3) (fun _ i _ => k - (intOf i).toNat)
      case atStart => exact ⟨0, Nat.zero_le _, rfl, rfl, rfl⟩
      case round =>
        obtain ⟨j, hj, rfl, rfl, rfl⟩ := hrel
        by_cases hlt : j < k
        · obtain ⟨ad, y, rfl, hab, hy7, hy8⟩ := link_at RO.out hlt
          obtain ⟨p, hp, rfl⟩ := map_lk_at hy7
          obtain ⟨⟨_, _, d2, _, _, _⟩, _⟩ := hy8
          have hj0 : (0 : Int) ≤ j := by omega
          have hj1 : (j : Int) < k := by omega
          have HT := Lib.hid (wasIn_take (h := hd) hp)
          obtain ⟨pp, hpp⟩ : ∃ pp, pp = p.pg := ⟨_, rfl⟩
          replace d2 : wr.cell? ⟨(ad.add (j * 7)).block, (ad.add (j * 7)).off + 2, none⟩ = some (.int .u32 pp) := by rw [hpp]; exact d2
          rw [← hpp] at HT
          clear hab hy7 hpp hp
          simp only [Bool.true_or]
          go_wp2_with fail
          go_roundw
          case rel =>
            first
              | exact ⟨j + 1, by omega, by go_num, by simp, by trivial⟩
              | ((repeat apply Exists.intro); exact ⟨⟨j + 1, by omega, by go_num, by simp, by trivial⟩, rfl⟩)
          case measure => simp [intOf]; omega
        · obtain rfl : j = k := by omega
          have ht : L.take j = L := List.take_of_length_le (by rw [HLl.out]; exact Nat.le_refl _)
          rw [ht]
          clear ht hlt hj RO
          have HGn := Lib.hid (show goes size s kd L hd = none by rw [HGo.out]; simp [hwhy])
          simp only [Bool.true_or]
          obtain ⟨hc1, hc2⟩ := chain_end HK9.out HAl.out HGn.out
          have hhd : ¬ hd = 0 := by intro h; rw [h] at hn2; simp at hn2
          have HE := Lib.hid (show followL size s kd head = (L.map fun p => (⟨p, 0⟩ : Lk)) ++ [⟨Pg.zero, 4⟩] by rw [followL, hc1, hc2, decide_eq_false hhd]; rfl)
          clear hc1 hc2 hhd
          have HX := Lib.hid (HO.out.alloc (.cells #[.int .i64 0, .int .i64 0, .int .u32 0, .int .u32 0, .int .u64 0, .string ByteArray.empty, .int .i64 4] 39))
          have HBX := Lib.hid (HB.out.alloc HB.out.size (.cells #[.int .i64 0, .int .i64 0, .int .u32 0, .int .u32 0, .int .u64 0, .string ByteArray.empty, .int .i64 4] 39))
          go_wp2_with (at_builtin; refine wpList_append_any _ rfl (.tmp 53) (.tmp 55) _ rfl w.heap.size 39 i0 _ 7 56 Tryz.underlying30 hi0 hz0 hz1 hz2 rfl (by omega) _ j _ rfl HX.out (wr.heap.size + 1) (some ⟨wr.heap.size, 0, none⟩) 1 1 (Lk.cells ⟨Pg.zero, 4⟩) rfl (reads_own (n := 1) (Blk.new _ _ _) rfl) (lk_one _) (by unfold maxLen; omega) (by omega) (by have := HB.out.size; simp; omega) ?_; intro v5 w5 hown5 hg5 hat)
          clear hat
          go_ret
          rw [lkc_snoc] at hown5
          obtain ⟨A5, c5, rfl, _, _, _⟩ := own_form hown5
          exact ⟨A5, _, c5, rfl, by rw [HE.out]; exact Reads.of_own hown5, HBX.out.grown hg5 HBX.out.size (fun g hg => (HX.out.lt g hg).1)⟩
    have hwhy : x = 0 ∧ ¬ hd < 2 ∧ qk = kd := ⟨hx, hy, hz⟩
    have z1 : (x != 0) = false := by simp [hx]
    have z2 : (x == 0) = true := by simp [hx]
    have z3 : decide ((hd : Int) < 2) = false := by simp; omega
    have z4 : decide (hd < 2) = false := decide_eq_false hy
    have z5 : (qk != kd) = false := by simp [hz]
    have z6 : (qk == kd) = true := by simp [hz]
    have HWhy := Lib.hid hwhy
    clear hx hy hz hwhy
    go_wp2_with fail
    obtain ⟨wo, hwo⟩ : ∃ wo, wo = wr := ⟨_, rfl⟩
    subst hwo
    go_loopw [12, 13] (fun b i wr => ∃ j : Nat, j ≤ k ∧ i = .int .i64 j ∧ b = .bool (false || wasIn (L.take j) hd) ∧ wr = w3) (fun _ i _ => k - (intOf i).toNat)
    case atStart => exact ⟨0, Nat.zero_le _, rfl, rfl, rfl⟩
    case round =>
      obtain ⟨j, hj, rfl, rfl, rfl⟩ := hrel
      by_cases hlt : j < k
      · obtain ⟨ad, y, rfl, hab, hy7, hy8⟩ := link_at RO.out hlt
        obtain ⟨p, hp, rfl⟩ := map_lk_at hy7
        obtain ⟨⟨_, _, d2, _, _, _⟩, _⟩ := hy8
        have hj0 : (0 : Int) ≤ j := by omega
        have hj1 : (j : Int) < k := by omega
        have HT := Lib.hid (wasIn_take (h := hd) hp)
        obtain ⟨pp, hpp⟩ : ∃ pp, pp = p.pg := ⟨_, rfl⟩
        replace d2 : wr.cell? ⟨(ad.add (j * 7)).block, (ad.add (j * 7)).off + 2, none⟩ = some (.int .u32 pp) := by rw [hpp]; exact d2
        rw [← hpp] at HT
        clear hab hy7 hpp hp
        simp only [Bool.false_or]
        rcases hwi : wasIn (L.take j) hd with _ | _
        · rw [hwi, Bool.false_or] at HT
          have he1 : ((pp : Int) == (hd : Int)) = decide (pp = hd) := by by_cases h : pp = hd <;> simp [h]; omega
          have he2 : (pp == hd) = decide (pp = hd) := by by_cases h : pp = hd <;> simp [h]
          generalize decide (pp = hd) = bq at *
          clear hwi
          go_wp2_with fail
          go_roundw
          case rel =>
            first
              | exact ⟨j + 1, by omega, by go_num, by rw [HT.out] <;> rfl, by trivial⟩
              | ((repeat apply Exists.intro); exact ⟨⟨j + 1, by omega, by go_num, by rw [HT.out] <;> rfl, by trivial⟩, rfl⟩)
          case measure => simp [intOf]; omega
        · rw [hwi, Bool.true_or] at HT
          clear hwi
          go_wp2_with fail
          go_roundw
          case rel =>
            first
              | exact ⟨j + 1, by omega, by go_num, by rw [HT.out] <;> rfl, by trivial⟩
              | ((repeat apply Exists.intro); exact ⟨⟨j + 1, by omega, by go_num, by rw [HT.out] <;> rfl, by trivial⟩, rfl⟩)
          case measure => simp [intOf]; omega
      · obtain rfl : j = k := by omega
        have ht : L.take j = L := List.take_of_length_le (by rw [HLl.out]; exact Nat.le_refl _)
        rw [ht]
        clear ht hlt hj RO
        simp only [Bool.false_or]
        rcases hwi : wasIn L hd with _ | _
        rotate_left
        · have HGn := Lib.hid (show goes size s kd L hd = none by rw [HGo.out, hwi]; simp)
          clear hwi
          obtain ⟨hc1, hc2⟩ := chain_end HK9.out HAl.out HGn.out
          have hhd : ¬ hd = 0 := by intro h; rw [h] at hn2; simp at hn2
          have HE := Lib.hid (show followL size s kd head = (L.map fun p => (⟨p, 0⟩ : Lk)) ++ [⟨Pg.zero, 4⟩] by rw [followL, hc1, hc2, decide_eq_false hhd]; rfl)
          clear hc1 hc2 hhd
          have HX := Lib.hid (HO.out.alloc (.cells #[.int .i64 0, .int .i64 0, .int .u32 0, .int .u32 0, .int .u64 0, .string ByteArray.empty, .int .i64 4] 39))
          have HBX := Lib.hid (HB.out.alloc HB.out.size (.cells #[.int .i64 0, .int .i64 0, .int .u32 0, .int .u32 0, .int .u64 0, .string ByteArray.empty, .int .i64 4] 39))
          go_wp2_with (at_builtin; refine wpList_append_any _ rfl (.tmp 53) (.tmp 55) _ rfl w.heap.size 39 i0 _ 7 56 Tryz.underlying30 hi0 hz0 hz1 hz2 rfl (by omega) _ j _ rfl HX.out (wr.heap.size + 1) (some ⟨wr.heap.size, 0, none⟩) 1 1 (Lk.cells ⟨Pg.zero, 4⟩) rfl (reads_own (n := 1) (Blk.new _ _ _) rfl) (lk_one _) (by unfold maxLen; omega) (by omega) (by have := HB.out.size; simp; omega) ?_; intro v5 w5 hown5 hg5 hat)
          clear hat
          go_ret
          rw [lkc_snoc] at hown5
          obtain ⟨A5, c5, rfl, _, _, _⟩ := own_form hown5
          exact ⟨A5, _, c5, rfl, by rw [HE.out]; exact Reads.of_own hown5, HBX.out.grown hg5 HBX.out.size (fun g hg => (HX.out.lt g hg).1)⟩
        have HGs := Lib.hid (show goes size s kd L hd = some ⟨qk, qc, qp, ql, qt, qb⟩ by rw [HGo.out, hwi]; simp [HWhy.out])
        have HN := Lib.hid (along_next HAl.out HGs.out)
        have HL2 := Lib.hid (along_len HAl.out HLl.out HGs.out)
        have hql := HQl.out HGs.out
        have HLn := Lib.hid (show (L ++ [(⟨qk, qc, qp, ql, qt, qb⟩ : Pg)]).length = j + 1 by rw [List.length_append, HLl.out]; rfl)
        clear hwi
        have HX := Lib.hid (HO.out.alloc (.cells #[.int .i64 qk, .int .i64 qc, .int .u32 qp, .int .u32 ql, .int .u64 qt, .string qb, .int .i64 0] 39))
        have HBX := Lib.hid (HB.out.alloc HB.out.size (.cells #[.int .i64 qk, .int .i64 qc, .int .u32 qp, .int .u32 ql, .int .u64 qt, .string qb, .int .i64 0] 39))
        have QX := Lib.hid (Qp.out.alloc (.cells #[.int .i64 qk, .int .i64 qc, .int .u32 qp, .int .u32 ql, .int .u64 qt, .string qb, .int .i64 0] 39))
        have c0 := Qp.out.cell 0
        have c1 := Qp.out.cell 1
        have c2 := Qp.out.cell 2
        have c3 := Qp.out.cell 3
        have c4 := Qp.out.cell 4
        have c5 := Qp.out.cell 5
        simp at c0 c1 c2 c3 c4 c5
        go_upto_region 12 with (at_builtin; go_loud (refine wpList_append_any _ rfl (.tmp 57) (.tmp 60) _ rfl w.heap.size 39 i0 _ 7 56 Tryz.underlying30 hi0 hz0 hz1 hz2 rfl (by omega) _ j _ rfl HX.out (wr.heap.size + 1) (some ⟨wr.heap.size, 0, none⟩) 1 1 (Lk.cells ⟨⟨qk, qc, qp, ql, qt, qb⟩, 0⟩) rfl (reads_own (n := 1) (Blk.new _ _ _) rfl) (lk_one _) (by unfold maxLen; omega) (by omega) (by have := HB.out.size; simp; omega) ?_); intro v5 w5 hown5 hg5 hat)
        clear hat c0 c1 c2 c3 c4 c5
        rw [lkc_snoc, show (L.map fun p => (⟨p, 0⟩ : Lk)) ++ [⟨⟨qk, qc, qp, ql, qt, qb⟩, 0⟩] = (L ++ [(⟨qk, qc, qp, ql, qt, qb⟩ : Pg)]).map fun p => (⟨p, 0⟩ : Lk) by simp] at hown5
        obtain ⟨A5, c5, rfl, _, _, _⟩ := own_form hown5
        have HO5 := Lib.hid hown5
        have HB5 := Lib.hid (HBX.out.grown hg5 HBX.out.size (fun g hg => (HX.out.lt g hg).1))
        have Q5 := Lib.hid (Blk.grown QX.out hg5 (own_type HX.out QX.out (by decide)))
        clear hown5 hg5 HX HBX QX
        have c3 := Q5.out.cell 3
        simp at c3
        go_wp2_with fail
        go_roundw
        case rel =>
          first
            | exact ⟨j + 1, ql, _, A5, c5, HN, HLn, HL2, hql, rfl, rfl, HO5, HB5⟩
            | ((repeat apply Exists.intro); exact ⟨⟨j + 1, ql, _, A5, c5, HN, HLn, HL2, hql, rfl, rfl, HO5, HB5⟩, rfl⟩)
        case measure =>
          have := HL2.out
          simp only [sliceLen]
          omega
end Go.Proofs.YtabhhccdbfjigaaGreat
namespace Go.Proofs.YtabhhccdbfjigaaGreat
open Go.RowKit
open Go.Lib hiding intOf
set_option linter.unusedVariables false
set_option linter.unusedSimpArgs false
attribute [local go_sem ↓] Go.wp_at_zero Go.wp_at_succ

def lostN : ByteArray := ⟨#[108, 111, 115, 116, 43, 102, 111, 117, 110, 100]⟩
theorem lost_list : lostN.toList = [108, 111, 115, 116, 43, 102, 111, 117, 110, 100] := by simp [lostN]
def nameB (s : ByteArray) : Bool := decide (1 ≤ s.size ∧ s.size ≤ 16)
def emptyB (b : Bk) : Bool := decide (b.rt = 0 ∧ b.ks = 0)
def fullB (b : Bk) : Bool := decide ((2 ≤ b.rt ∧ b.rt ≤ 2147483647) ∧ 1 ≤ b.ks ∧ b.ks ≤ 2147483647)
/-- A bucket is valid. -/
def okBk (b : Bk) : Bool := nameB b.nm && (emptyB b || fullB b)
/-- The bucket with index i is valid, and its name is above the one before it. -/
def okAt (l : List Bk) (i : Nat) : Bool :=
  match l[i]? with
  | none => false
  | some b => okBk b && (decide (i = 0) || match l[i - 1]? with | some a => Op.bytesLess a.nm.toList b.nm.toList | none => true)
/-- The size of buckets without that of lost+found. -/
def sumB : List Bk → Nat
  | [] => 0
  | b :: l => (if b.nm.toList == lostN.toList then 0 else 9 + b.nm.size) + sumB l
theorem sumB_snoc (l : List Bk) (b : Bk) : sumB (l ++ [b]) = sumB l + (if b.nm.toList == lostN.toList then 0 else 9 + b.nm.size) := by
  induction l with
  | nil => simp [sumB]
  | cons c l ih => simp only [List.cons_append, sumB, ih]; omega
theorem sumB_take_succ {l : List Bk} {k : Nat} {x : Bk} (h : l[k]? = some x) : sumB (l.take (k + 1)) = sumB (l.take k) + (if x.nm.toList == lostN.toList then 0 else 9 + x.nm.size) := by
  obtain ⟨hk, rfl⟩ := List.getElem?_eq_some_iff.1 h
  rw [List.take_succ_eq_append_getElem hk, sumB_snoc]
theorem sumB_le (l : List Bk) : sumB l ≤ sizeB l := by
  induction l with
  | nil => simp [sumB, sizeB]
  | cons c l ih => simp only [sumB, sizeB]; split <;> omega
def allOk (l : List Bk) : Bool := (List.range l.length).all (okAt l)
/-- Buckets are valid for a page size. -/
def mayL (size : Int) (l : List Bk) : Bool := allOk l && (goodSize size && decide ((sumB l : Int) ≤ size - 43))
theorem allOk_no {l : List Bk} {k : Nat} (hk : k < l.length) (h : okAt l k = false) : allOk l = false := by
  rw [Bool.eq_false_iff]
  intro ha
  rw [allOk, List.all_eq_true] at ha
  rw [ha k (List.mem_range.2 hk)] at h
  cases h
theorem allOk_yes {l : List Bk} (h : ∀ j, j < l.length → okAt l j = true) : allOk l = true := by
  rw [allOk, List.all_eq_true]
  exact fun j hj => h j (List.mem_range.1 hj)
theorem okAt_of {l : List Bk} {k : Nat} {x : Bk} (hx : l[k]? = some x) : okAt l k = (okBk x && (decide (k = 0) || match l[k - 1]? with | some a => Op.bytesLess a.nm.toList x.nm.toList | none => true)) := by
  rw [okAt, hx]
theorem okAt_name {l : List Bk} {k : Nat} {x : Bk} (hx : l[k]? = some x) (h : okAt l k = true) : x.nm.size ≤ 16 := by
  rw [okAt_of hx] at h
  simp only [okBk, nameB, Bool.and_eq_true, decide_eq_true_eq] at h
  exact h.1.1.2
theorem sumB_ok {l : List Bk} : ∀ {k : Nat}, (∀ j, j < k → okAt l j = true) → k ≤ l.length → sumB (l.take k) ≤ 25 * k
  | 0, _, _ => by simp [sumB]
  | k + 1, h, hk => by
    have hx : l[k]? = some l[k] := List.getElem?_eq_getElem (by omega)
    have ih := sumB_ok (k := k) (fun j hj => h j (by omega)) (by omega)
    have hn := okAt_name hx (h k (by omega))
    rw [sumB_take_succ hx]
    split <;> omega
def numB (n : Nat) : Bool := decide (2 ≤ n ∧ n ≤ 2147483647)
theorem rnumB_any (n : Nat) (w : World) : Calls Tryz.prog 39 #[.int .u32 n] w fun e w' => e = .returned (.bool (numB n)) ∧ w' = w := by
  by_cases h1 : 2 ≤ n
  · have h1' : (2 : Int) ≤ n := by omega
    by_cases h2 : n ≤ 2147483647
    · have h2' : (n : Int) ≤ 2147483647 := by omega
      have HE := Lib.hid (show numB n = true by simp [numB, h1, h2])
      go_enter Tryz.func39, Tryz.ntmps39
      go_wp2
      go_ret
      exact ⟨by rw [HE.out]; rfl, rfl⟩
    · have h2' : ¬ (n : Int) ≤ 2147483647 := by omega
      have HE := Lib.hid (show numB n = false by simp [numB, h1, h2])
      go_enter Tryz.func39, Tryz.ntmps39
      go_wp2
      go_ret
      exact ⟨by rw [HE.out]; rfl, rfl⟩
  · have h1' : ¬ (2 : Int) ≤ n := by omega
    have HE := Lib.hid (show numB n = false by simp [numB, h1])
    go_enter Tryz.func39, Tryz.ntmps39
    go_wp2
    go_ret
    exact ⟨by rw [HE.out]; rfl, rfl⟩
end Go.Proofs.YtabhhccdbfjigaaGreat
