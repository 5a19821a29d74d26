/-
  The walk of the statement ChainOnce: from every start it returns true and changes no block that was there before.
-/
import Derived.Test.YtabhhccdbfjigaaJ46
import Derived.Test.YtabhhccdbfjigaaJ18
import Derived.Test.YtabhhccdbfjigaaJ14
import Derived.Test.YtabhhccdbfjigaaJ26
import Derived.Test.YtabhhccdbfjigaaJ24
import Derived.Test.YtabhhccdbfjigaaJ11
import Derived.Deep.CutRange
namespace Go.Proofs.Ytabhhccdbfjigaa
open Go.RowKit
open Go.Lib hiding intOf
set_option linter.unusedVariables false
set_option linter.unusedSimpArgs false
attribute [local go_sem ↓] Go.wp_at_zero Go.wp_at_succ

/-- Where page i leads. -/
def ringK (nx : List Nat) (n i : Nat) : Nat := if nthU nx i % (n + 2) = 1 then 0 else nthU nx i % (n + 2)
theorem ringK_ok (nx : List Nat) (n i : Nat) : ringK nx n i = 0 ∨ (2 ≤ ringK nx n i ∧ ringK nx n i ≤ n + 1) := by
  unfold ringK
  have := Nat.mod_lt (nthU nx i) (show 0 < n + 2 by omega)
  split <;> omega
/-- Which places were met, one cell for each. -/
def wasC (C : List Pg) (k : Nat) : List Value := (List.range k).map fun x => Value.int .i64 (if wasIn C x then 1 else 0)
theorem wasC_len (C : List Pg) (k : Nat) : (wasC C k).length = k := by simp [wasC]
theorem wasC_at {C : List Pg} {k x : Nat} (h : x < k) : (wasC C k)[x]? = some (.int .i64 (if wasIn C x then 1 else 0)) := by
  unfold wasC
  rw [List.getElem?_map, List.getElem?_range h]
  rfl
theorem wasIn_snoc (C : List Pg) (p : Pg) (x : Nat) : wasIn (C ++ [p]) x = (wasIn C x || decide (p.pg = x)) := by
  unfold wasIn
  rw [List.any_append]
  simp
theorem wasC_set {C : List Pg} {k : Nat} {p : Pg} (h : p.pg < k) : (wasC C k).set p.pg (.int .i64 1) = wasC (C ++ [p]) k := by
  apply List.ext_getElem?
  intro x
  by_cases hx : x < k
  · rw [wasC_at hx, wasIn_snoc]
    by_cases he : p.pg = x
    · subst he
      rw [List.getElem?_set_self (by rw [wasC_len]; exact hx)]
      simp
    · rw [List.getElem?_set_ne he, wasC_at hx, decide_eq_false he, Bool.or_false]
  · rw [List.getElem?_eq_none (by rw [List.length_set, wasC_len]; omega), List.getElem?_eq_none (by rw [wasC_len]; omega)]
theorem wasC_zero (k : Nat) : (wasC [] k).toArray = madeCells #[.int .i64 0] k := by
  rw [← Array.toArray_toList (xs := madeCells #[.int .i64 0] k), toList_madeCells_one]
  congr 1
  apply List.ext_getElem?
  intro x
  by_cases hx : x < k
  · rw [wasC_at hx, List.getElem?_replicate, if_pos hx]
    rfl
  · rw [List.getElem?_eq_none (by rw [wasC_len]; omega), List.getElem?_eq_none (by rw [List.length_replicate]; omega)]
/-- A ring's chain, place by place. -/
theorem ring_walk {im B : ByteArray} {n : Nat} {lk : Nat → Nat} (hn : 1 ≤ n) (hlk : ∀ i, lk i = 0 ∨ (2 ≤ lk i ∧ lk i ≤ n + 1))
    (hrd : ∀ h, 2 ≤ h → h < n + 2 → readAt 128 im h = some (ringPg B lk (h - 2))) (hrn : ∀ h, n + 2 ≤ h → readAt 128 im h = none) :
    (∀ j, j < (chainL 128 im 5 2).length → ∃ h p, (along 128 im 5 2 j).2 = h ∧ (chainL 128 im 5 2)[j]? = some p ∧ 2 ≤ h ∧ h ≤ n + 1 ∧ p = ringPg B lk (h - 2) ∧ p.pg = h ∧ wasIn ((chainL 128 im 5 2).take j) h = false ∧ (along 128 im 5 2 (j + 1)).2 = p.lk) ∧
    ∃ h, (along 128 im 5 2 (chainL 128 im 5 2).length).2 = h ∧ chainOk 128 im 5 2 = decide (h = 0) ∧ (h ≠ 0 → 2 ≤ h ∧ h ≤ n + 1 ∧ wasIn (chainL 128 im 5 2) h = true) := by
  have h1 : ∀ j, j < (chainL 128 im 5 2).length → ∃ h p, (along 128 im 5 2 j).2 = h ∧ (chainL 128 im 5 2)[j]? = some p ∧ 2 ≤ h ∧ h ≤ n + 1 ∧ p = ringPg B lk (h - 2) ∧ p.pg = h ∧ wasIn ((chainL 128 im 5 2).take j) h = false ∧ (along 128 im 5 2 (j + 1)).2 = p.lk := fun j hj => by
    obtain ⟨p, hp, _, hg, hnx⟩ := chain_step hj
    obtain ⟨g1, g2, g3, _⟩ := goes_some hg
    have g4 : (along 128 im 5 2 j).2 ≤ n + 1 := by
      refine Nat.le_of_not_lt fun hc => ?_
      rw [hrn _ (by omega)] at g3
      cases g3
    rw [hrd _ g1 (by omega)] at g3
    injection g3 with g3
    refine ⟨_, p, rfl, hp, g1, g4, g3.symm, ?_, g2, hnx⟩
    rw [← g3]
    show (along 128 im 5 2 j).2 - 2 + 2 = _
    omega
  refine ⟨h1, _, rfl, chain_last.2.2, fun h0 => ?_⟩
  have hb : (along 128 im 5 2 (chainL 128 im 5 2).length).2 = 0 ∨ (2 ≤ (along 128 im 5 2 (chainL 128 im 5 2).length).2 ∧ (along 128 im 5 2 (chainL 128 im 5 2).length).2 ≤ n + 1) := by
    rcases Nat.eq_zero_or_pos (chainL 128 im 5 2).length with h2 | h2
    · rw [h2]
      refine .inr ?_
      show 2 ≤ 2 ∧ 2 ≤ n + 1
      omega
    · obtain ⟨h, p, _, _, _, _, hp, _, _, hx⟩ := h1 ((chainL 128 im 5 2).length - 1) (by omega)
      rw [show (chainL 128 im 5 2).length - 1 + 1 = (chainL 128 im 5 2).length by omega] at hx
      rw [hx, hp]
      exact hlk _
  rcases hb with hb | ⟨hb1, hb2⟩
  · exact absurd hb h0
  refine ⟨hb1, hb2, ?_⟩
  have h3 := (chain_last (size := 128) (s := im) (kd := 5) (head := 2)).2.1
  rw [goes_is (hrd _ hb1 (by omega))] at h3
  rw [decide_eq_false (by omega), show decide ((ringPg B lk ((along 128 im 5 2 (chainL 128 im 5 2).length).2 - 2)).kd = 5) = true from rfl] at h3
  rcases hw : wasIn (chainL 128 im 5 2) (along 128 im 5 2 (chainL 128 im 5 2).length).2 with _ | _
  · rw [hw] at h3
    cases h3
  · rfl
theorem follow_at {size : Int} {s : ByteArray} {kd : Int} {head j : Nat} {p : Pg} (h : (chainL size s kd head)[j]? = some p) : (followL size s kd head)[j]? = some ⟨p, 0⟩ := by
  unfold followL
  have hj := (List.getElem?_eq_some_iff.1 h).1
  rw [List.getElem?_append_left (by rw [List.length_map]; exact hj), List.getElem?_map, h]
  rfl
theorem follow_end {size : Int} {s : ByteArray} {kd : Int} {head : Nat} (h : chainOk size s kd head = false) : (followL size s kd head)[(chainL size s kd head).length]? = some ⟨Pg.zero, 4⟩ ∧ (followL size s kd head).length = (chainL size s kd head).length + 1 := by
  unfold followL
  rw [h]
  refine ⟨?_, by simp⟩
  rw [List.getElem?_append_right (by rw [List.length_map]; exact Nat.le_refl _), List.length_map, Nat.sub_self]
  rfl
theorem follow_whole {size : Int} {s : ByteArray} {kd : Int} {head : Nat} (h : chainOk size s kd head = true) : (followL size s kd head).length = (chainL size s kd head).length := by
  unfold followL
  rw [h]
  simp
theorem infoIntO : (Try.prog.info? 3).map (fun i => (i.zero, i.size, i.bytes)) = some (some (.int .i64 0), 1, 8) := by kernel_rfl
theorem makeIntO (n : Nat) (hn : n ≤ 1000) (w : World) : (Instr.makeSlice 51 (.int .i64 (n : Int)) (.int .i64 (n : Int))).run Try.prog w = .ok (.slice (some ⟨w.heap.size, 0, none⟩) n n) (w.alloc (.cells (madeCells #[.int .i64 0] n) 3)) := by
  obtain ⟨i, hi0, hz, hs, hb⟩ := info_parts infoIntO
  have hr := run_make (P := Try.prog) w 51 3 i _ Try.underlying51 hi0 hz .i64 .i64 n n (by omega) (by omega) (by rw [hb]; omega) (by omega)
  simp only [Int.toNat_natCast] at hr
  rw [hs, Nat.mul_one] at hr
  exact hr
theorem meas_lt {m j : Nat} {z : Int} (h : j < m) (hz : z = (j : Int) + 1) : m - z.toNat < m - j := by subst hz; omega
theorem meas_lt2 {m j : Nat} (h : j < m) : m - (j + 1) < m - j := by omega
set_option maxRecDepth 100000 in
set_option maxHeartbeats 25600000 in
theorem chonce_g1 (A : Option Addr) (n c : Nat) (w : World) (h : 20 < n) :
    Calls Try.prog 5 #[.slice A n c] w fun e w' => e = .returned (.bool true) ∧ Below w.heap.size w w' := by
  have g1 : decide ((20 : Int) < (n : Int)) = true := by simp; omega
  have g2 : decide (20 < n) = true := by simp; omega
  clear h
  have HB := Lib.hid (Below.refl w.heap.size w)
  go_enter Try.func5, Try.ntmps5
  go_wp2_with fail
  refine (lives11_any _).mono ?_
  rintro e w1 ⟨rfl, hb⟩
  replace HB := Lib.hid (HB.out.trans (hb.mono HB.out.size))
  clear hb
  go_wp2_with fail
  go_ret
  exact ⟨rfl, HB.out⟩
set_option maxRecDepth 100000 in
set_option maxHeartbeats 25600000 in
theorem chonce_g2 (A : Option Addr) (c : Nat) (w : World) :
    Calls Try.prog 5 #[.slice A 0 c] w fun e w' => e = .returned (.bool true) ∧ Below w.heap.size w w' := by
  have HB := Lib.hid (Below.refl w.heap.size w)
  go_enter Try.func5, Try.ntmps5
  go_wp2_with fail
  refine (lives11_any _).mono ?_
  rintro e w1 ⟨rfl, hb⟩
  replace HB := Lib.hid (HB.out.trans (hb.mono HB.out.size))
  clear hb
  go_wp2_with fail
  go_ret
  exact ⟨rfl, HB.out⟩
set_option maxRecDepth 100000 in
set_option maxHeartbeats 25600000 in
theorem chonce_main (A : Option Addr) (n c : Nat) (nx : List Nat) (w : World) (hr : Reads w w.heap.size 1 A n (ucells nx)) (hu : ∀ a ∈ nx, a < 4294967296) (hn : 1 ≤ n) (hn2 : n ≤ 20) :
    Calls Try.prog 5 #[.slice A n c] w fun e w' => e = .returned (.bool true) ∧ Below w.heap.size w w' := by
  have g1 : decide ((20 : Int) < (n : Int)) = false := by simp; omega
  have g2 : decide (20 < n) = false := by simp; omega
  have g3 : ((n : Int) == 0) = false := by simp; omega
  have hln := ulen hr
  have hT := fun w => times_any ⟨#[118]⟩ 104 w (by decide) (by decide)
  obtain ⟨v, hv⟩ : ∃ V, V = reps ⟨#[118]⟩ 104 := ⟨_, rfl⟩
  have hvs : v.size = 104 := by rw [hv, reps_size]; rfl
  rw [← hv] at hT
  obtain ⟨hmay, im, hlay, him, him2, hrd, hrn⟩ := ring_all (n := n) (lk := ringK nx n) hvs hn hn2 (fun i _ => ringK_ok nx n i)
  obtain ⟨B, hB⟩ : ∃ B, B = overBody 128 v := ⟨_, rfl⟩
  rw [← hB] at hlay hrd
  obtain ⟨L, hL⟩ : ∃ L, L = (List.range n).map (ringPg B (ringK nx n)) := ⟨_, rfl⟩
  rw [← hL] at hlay
  have HLat := Lib.hid (fun i (hi : i < n) => show L[i]? = some (ringPg B (ringK nx n) i) by rw [hL, List.getElem?_map, List.getElem?_range hi]; rfl)
  have HLl := Lib.hid (show L.length = n by rw [hL]; simp)
  have HPg := fun (i : Nat) (hi : i < n) (w : World) => rpage9_yes 128 (i + 2) (ringK nx n i) 1 v w (hmay i hi)
  rw [← hB, hvs] at HPg
  have HPG := Lib.hid HPg
  have HLay := Lib.hid hlay
  have HIm := Lib.hid him
  have HIm2 := Lib.hid him2
  have HRd := Lib.hid hrd
  have HRn := Lib.hid hrn
  have HU := Lib.hid (fun i (hi : i < n) => hu _ (List.mem_of_getElem? (nthU_at (show i < nx.length by omega))))
  have HR := Lib.hid hr
  obtain ⟨i0, hi0, hz0, hz1, hz2⟩ := info_parts infoPg11
  obtain ⟨hzp, hi⟩ := zero_of_info infoPg
  have HI := Lib.hid hi
  obtain ⟨n2, hn2'⟩ : ∃ x, x = n + 2 := ⟨_, rfl⟩
  have y1 : (n : Int) + 2 = (n2 : Int) := by omega
  have y4 : ((n2 : Int) == 0) = false := by simp; omega
  have y5 : ¬ (n2 : Int) = 0 := by omega
  have HN2 := Lib.hid hn2'
  have z1 : ∀ k, k ≤ 20 → k + 1 ≤ maxLen := fun k h => by unfold maxLen; omega
  have z2 : ∀ k, k ≤ 20 → (k + 1) * 48 ≤ 140737488355328 := fun k h => by omega
  have HW2 := Lib.hid (wrap64_nat n2 (by omega))
  have HI2 := Lib.hid (i64_nat n2 (by omega))
  have HU2 := Lib.hid (show IntKind.u32.wrap (n2 : Int) = (n2 : Int) by rw [IntKind.wrap_u32]; omega)
  clear hv hvs hmay hlay him him2 hrd hrn hB hL HPg hu hln hr hi hn2'
  have HB := Lib.hid (Below.refl w.heap.size w)
  go_enter Try.func5, Try.ntmps5
  go_wp2_with fail
  refine (lives11_any _).mono ?_
  rintro e w1 ⟨rfl, hb⟩
  replace HB := Lib.hid (HB.out.trans (hb.mono HB.out.size))
  clear hb
  go_wp2_with fail
  clear g1 g2 g3
  replace HR := Lib.hid ((HR.out.below HB.out).more HB.out.size)
  go_loopw [3, 4] (fun b i wr => ∃ (k : Nat) (A' : Option Addr) (c' : Nat), k ≤ n ∧ i = .int .i64 k ∧ b = .slice A' k c' ∧ Hid (wr.ownsRow w1.heap.size 40 6 (.slice A' k c') k (pgcs (L.take k))) ∧ Hid (Below w1.heap.size w1 wr)) (fun _ i _ => n - (intOf i).toNat)
  case atStart => exact ⟨0, none, 0, Nat.zero_le _, rfl, rfl, Lib.hid (World.ownsRow_nil _ _ _ _), Lib.hid (Below.refl _ _)⟩
  case round =>
    obtain ⟨k, A', c', hk, rfl, rfl, HO, HW⟩ := hrel
    have hk9 : k ≤ 20 := by omega
    by_cases hlt : k < n
    · obtain ⟨ad, rfl, -, hc0⟩ := ureads_at (HR.out.below HW.out) hlt
      have hpg := fun w => HPG.out k hlt w
      have hts := take_snoc_at (HLat.out k hlt)
      have ha9 := HU.out k hlt
      obtain ⟨a, ha⟩ : ∃ a, a = nthU nx k := ⟨_, rfl⟩
      rw [← ha] at hc0 ha9
      obtain ⟨q, hq⟩ : ∃ q, q = a % n2 := ⟨_, rfl⟩
      have hq9 : q < n2 := by rw [hq]; exact Nat.mod_lt _ (by have := HN2.out; omega)
      have hn29 : n2 ≤ 22 := by have := HN2.out; omega
      have hrk : ringK nx n k = if q = 1 then 0 else q := by unfold ringK; rw [← ha, ← HN2.out, ← hq]
      obtain ⟨lk, hlk⟩ : ∃ x, x = ringK nx n k := ⟨_, rfl⟩
      have hrp : ringPg B (ringK nx n) k = ⟨5, 104, k + 2, lk, 1, B⟩ := by unfold ringPg; rw [← hlk]
      rw [hrp] at hts
      rw [← hlk] at hpg hrk
      obtain ⟨k2, hk2⟩ : ∃ x, x = k + 2 := ⟨_, rfl⟩
      rw [← hk2] at hpg hts
      have x1 : (a : Int) % (n2 : Int) = (q : Int) := by rw [hq]; simp
      have x2 : Int.tmod (a : Int) (n2 : Int) = (q : Int) := by rw [Int.tmod_eq_emod_of_nonneg (by omega)]; exact x1
      have x3 : (k : Int) + 2 = (k2 : Int) := by omega
      have hk0 : (0 : Int) ≤ k := by omega
      have hk1 : (k : Int) < n := by omega
      have HTs := Lib.hid hts
      have HX := Lib.hid hrk
      have hk29 : k2 ≤ 22 := by omega
      have x4 : IntKind.u32.wrap (k : Int) = (k : Int) := by rw [IntKind.wrap_u32]; omega
      have x5 : IntKind.u32.wrap (k2 : Int) = (k2 : Int) := by rw [IntKind.wrap_u32]; omega
      have x6 : IntKind.u32.wrap (q : Int) = (q : Int) := by rw [IntKind.wrap_u32]; omega
      clear ha hq hlk hrp hk2 hts ha9 hrk hk29 hn29
      by_cases hq1 : q = 1
      · obtain rfl : lk = 0 := by rw [HX.out, if_pos hq1]
        have e1 : ((q : Int) == 1) = true := by simp [hq1]
        have e2 : (q == 1) = true := by simp [hq1]
        go_upto_region 12 with fail
        go_wp2_with fail
        refine (hT _).mono ?_
        rintro e wt ⟨rfl, rfl⟩
        go_wp2_with fail
        refine (hpg _).mono ?_
        rintro e w4 ⟨rfl, hb4⟩
        replace HW := Lib.hid (HW.out.trans (hb4.mono HW.out.size))
        replace HO := Lib.hid (own_below HO.out hb4)
        clear hb4 hpg e1 e2 x1 x2 x3 x4 x5 x6 hc0
        go_upto_region 13 with fail
        obtain ⟨w5, hw5⟩ : ∃ x, x = w4.alloc (.cells #[.int .i64 5, .int .i64 104, .int .u32 k2, .int .u32 0, .int .u64 1, .string B] 40) := ⟨_, rfl⟩
        have Q := Lib.hid (show Blk w5 w4.heap.size 40 #[.int .i64 5, .int .i64 104, .int .u32 k2, .int .u32 0, .int .u64 1, .string B] by rw [hw5]; exact Blk.new _ _ _)
        replace HW := Lib.hid (show Below w1.heap.size w1 w5 by rw [hw5]; exact HW.out.alloc HW.out.size _)
        replace HO := Lib.hid (show w5.ownsRow w1.heap.size 40 6 (.slice A' k c') k (pgcs (L.take k)) by rw [hw5]; exact HO.out.alloc _)
        rw [← hw5]
        clear hw5
        generalize w4.heap.size = gp at *
        have q0 := Q.out.cell 0
        have q1 := Q.out.cell 1
        have q2 := Q.out.cell 2
        have q3 := Q.out.cell 3
        have q4 := Q.out.cell 4
        have q5 := Q.out.cell 5
        simp at q0 q1 q2 q3 q4 q5
        have HXx := Lib.hid (HO.out.alloc (.cells #[.int .i64 5, .int .i64 104, .int .u32 k2, .int .u32 0, .int .u64 1, .string B] 40))
        have HWX := Lib.hid (HW.out.alloc HW.out.size (.cells #[.int .i64 5, .int .i64 104, .int .u32 k2, .int .u32 0, .int .u64 1, .string B] 40))
        go_wp2_with (at_builtin; refine wpList_append_any _ rfl (.tmp 53) (.tmp 55) _ rfl w1.heap.size 40 i0 _ 6 48 Try.underlying24 hi0 hz0 hz1 hz2 rfl (by decide) _ k _ rfl HXx.out (w5.heap.size + 1) (some ⟨w5.heap.size, 0, none⟩) 1 1 (pgcs [⟨5, 104, k2, 0, 1, B⟩]) rfl (reads_own (n := 1) (Blk.new _ _ _) rfl) (pgcs_one _) (z1 k hk9) (z2 k hk9) HWX.out.size ?_; intro v6 w6 hown6 hg6 hat6; clear hat6; rw [← pgcs_append, ← HTs.out] at hown6; obtain ⟨A6, c6, rfl, _, _, _⟩ := own_form hown6; have HO6 := Lib.hid hown6; have HW6 := Lib.hid (HWX.out.grown hg6 HWX.out.size (own_base HXx.out)); clear hown6 hg6)
        go_roundw
        case rel =>
          first
            | exact ⟨k + 1, A6, c6, by omega, by go_num, rfl, HO6, HW6⟩
            | ((repeat apply Exists.intro); refine ⟨⟨k + 1, A6, c6, ?_, ?_, rfl, HO6, HW6⟩, rfl⟩ <;> first | omega | go_num)
        case measure => simp [intOf]; omega
      · obtain rfl : lk = q := by rw [HX.out, if_neg hq1]
        have e1 : ((lk : Int) == 1) = false := by simp; omega
        have e2 : (lk == 1) = false := by simp; omega
        go_upto_region 12 with fail
        go_wp2_with fail
        refine (hT _).mono ?_
        rintro e wt ⟨rfl, rfl⟩
        go_wp2_with fail
        refine (hpg _).mono ?_
        rintro e w4 ⟨rfl, hb4⟩
        replace HW := Lib.hid (HW.out.trans (hb4.mono HW.out.size))
        replace HO := Lib.hid (own_below HO.out hb4)
        clear hb4 hpg e1 e2 x1 x2 x3 x4 x5 x6 hc0
        go_upto_region 13 with fail
        obtain ⟨w5, hw5⟩ : ∃ x, x = w4.alloc (.cells #[.int .i64 5, .int .i64 104, .int .u32 k2, .int .u32 lk, .int .u64 1, .string B] 40) := ⟨_, rfl⟩
        have Q := Lib.hid (show Blk w5 w4.heap.size 40 #[.int .i64 5, .int .i64 104, .int .u32 k2, .int .u32 lk, .int .u64 1, .string B] by rw [hw5]; exact Blk.new _ _ _)
        replace HW := Lib.hid (show Below w1.heap.size w1 w5 by rw [hw5]; exact HW.out.alloc HW.out.size _)
        replace HO := Lib.hid (show w5.ownsRow w1.heap.size 40 6 (.slice A' k c') k (pgcs (L.take k)) by rw [hw5]; exact HO.out.alloc _)
        rw [← hw5]
        clear hw5
        generalize w4.heap.size = gp at *
        have q0 := Q.out.cell 0
        have q1 := Q.out.cell 1
        have q2 := Q.out.cell 2
        have q3 := Q.out.cell 3
        have q4 := Q.out.cell 4
        have q5 := Q.out.cell 5
        simp at q0 q1 q2 q3 q4 q5
        have HXx := Lib.hid (HO.out.alloc (.cells #[.int .i64 5, .int .i64 104, .int .u32 k2, .int .u32 lk, .int .u64 1, .string B] 40))
        have HWX := Lib.hid (HW.out.alloc HW.out.size (.cells #[.int .i64 5, .int .i64 104, .int .u32 k2, .int .u32 lk, .int .u64 1, .string B] 40))
        go_wp2_with (at_builtin; refine wpList_append_any _ rfl (.tmp 53) (.tmp 55) _ rfl w1.heap.size 40 i0 _ 6 48 Try.underlying24 hi0 hz0 hz1 hz2 rfl (by decide) _ k _ rfl HXx.out (w5.heap.size + 1) (some ⟨w5.heap.size, 0, none⟩) 1 1 (pgcs [⟨5, 104, k2, lk, 1, B⟩]) rfl (reads_own (n := 1) (Blk.new _ _ _) rfl) (pgcs_one _) (z1 k hk9) (z2 k hk9) HWX.out.size ?_; intro v6 w6 hown6 hg6 hat6; clear hat6; rw [← pgcs_append, ← HTs.out] at hown6; obtain ⟨A6, c6, rfl, _, _, _⟩ := own_form hown6; have HO6 := Lib.hid hown6; have HW6 := Lib.hid (HWX.out.grown hg6 HWX.out.size (own_base HXx.out)); clear hown6 hg6)
        go_roundw
        case rel =>
          first
            | exact ⟨k + 1, A6, c6, by omega, by go_num, rfl, HO6, HW6⟩
            | ((repeat apply Exists.intro); refine ⟨⟨k + 1, A6, c6, ?_, ?_, rfl, HO6, HW6⟩, rfl⟩ <;> first | omega | go_num)
        case measure => simp [intOf]; omega
    · obtain rfl : k = n := by omega
      have HLp := Lib.hid (show Reads wr wr.heap.size 6 A' k (pgcs L) by have h := Reads.of_own HO.out; rwa [List.take_of_length_le (by rw [HLl.out]; exact Nat.le_refl _)] at h)
      have HBw := Lib.hid (HB.out.trans (HW.out.mono HB.out.size))
      have hkp : 1 ≤ k := hn
      have HOK := Lib.hid (fun i => ringK_ok nx k i)
      obtain ⟨hws, hend, hE1, hE2, hE3⟩ := ring_walk (B := B) (lk := ringK nx k) hn (ringK_ok nx k) HRd.out HRn.out
      have HWs := Lib.hid hws
      have HE1 := Lib.hid hE1
      have HE2 := Lib.hid hE2
      have HE3 := Lib.hid hE3
      have hk2 : (k : Int) + 2 = (n2 : Int) := y1
      have hn2b : n2 ≤ 1000 := by have := HN2.out; omega
      clear HO HW hlt hk hT HPG hws hE1 hE2 hE3
      have y2 := HW2.out
      have y3 := HI2.out
      go_wp2_with fail
      refine (hlay_any 128 ⟨#[]⟩ A' k c' L _ (by decide) HLp.out (by omega)).mono ?_
      rw [(lay_yes HLay.out).1, (lay_yes HLay.out).2]
      rintro e x1 ⟨rfl, hb⟩
      replace HBw := Lib.hid (HBw.out.trans (hb.mono HBw.out.size))
      replace HLp := Lib.hid ((HLp.out.below hb).more hb.size)
      clear hb
      go_wp2_with fail
      refine (hlinks_any 128 im 2 5 _ (by have := HIm.out; omega) (by decide)).mono ?_
      rintro e x2 ⟨Bg, m, dg, rfl, hrg, hb⟩
      have hml := lkc_len hrg
      have HRg := Lib.hid hrg
      replace HBw := Lib.hid (HBw.out.trans (hb.mono HBw.out.size))
      replace HLp := Lib.hid ((HLp.out.below hb).more hb.size)
      clear hb hrg
      have hmk := makeIntO n2 hn2b x2
      obtain ⟨x3, hx3⟩ : ∃ x, x = x2.alloc (.cells (madeCells #[.int .i64 0] n2) 3) := ⟨_, rfl⟩
      rw [← hx3] at hmk
      have Q0 := Lib.hid (show Blk x3 x2.heap.size 3 (wasC [] n2).toArray by rw [hx3, wasC_zero]; exact Blk.new _ _ _)
      have HB3 := Lib.hid (show Below x2.heap.size x2 x3 by rw [hx3]; exact (Below.refl _ _).alloc (Nat.le_refl _) _)
      clear hx3
      have HgH := Lib.hid HBw.out.size
      obtain ⟨g, hg⟩ : ∃ g, g = x2.heap.size := ⟨_, rfl⟩
      rw [← hg] at hmk Q0 HB3 HgH HRg HLp
      clear hg
      obtain ⟨C, hC⟩ : ∃ C, C = chainL 128 im 5 2 := ⟨_, rfl⟩
      rw [← hC] at HWs HE1 HE3
      have HCl : Hid (C.length ≤ im.size) := Lib.hid (by rw [hC]; exact along_short im.size)
      have HF1 := Lib.hid (fun j p (h : C[j]? = some p) => follow_at (size := 128) (s := im) (kd := 5) (head := 2) (j := j) (p := p) (by rw [← hC]; exact h))
      have HF2 := Lib.hid (fun h => follow_end (size := 128) (s := im) (kd := 5) (head := 2) h)
      have HF3 := Lib.hid (fun h => follow_whole (size := 128) (s := im) (kd := 5) (head := 2) h)
      rw [← hC] at HF2 HF3
      have HMl := Lib.hid hml
      have HIm9 := Lib.hid HIm.out
      clear hC hml
      go_upto_region 21 with fail
      clear hmk y2 y3
      go_wp2_with fail
      go_loopw [13, 14] (fun at_ i wr => ∃ (j : Nat) (h : Nat), j ≤ C.length ∧ i = .int .i64 j ∧ at_ = .int .i64 h ∧ Hid ((along 128 im 5 2 j).2 = h) ∧ Hid (Blk wr g 3 (wasC (C.take j) n2).toArray) ∧ Hid (Below g x2 wr)) (fun _ i _ => m - (intOf i).toNat)
      case atStart => exact ⟨0, 2, Nat.zero_le _, rfl, rfl, Lib.hid rfl, Q0, HB3⟩
      case round =>
        obtain ⟨j, h, hj, rfl, rfl, HH, HQ, HX⟩ := hrel
        by_cases hlt : j < C.length
        · obtain ⟨h', p, e1, hp, h2, hn1, hpr, hpg, hwi, hnx⟩ := HWs.out j hlt
          obtain rfl : h = h' := HH.out.symm.trans e1
          obtain ⟨i2, hi2⟩ : ∃ x, x = h - 2 := ⟨_, rfl⟩
          obtain ⟨q, hq⟩ : ∃ x, x = ringK nx k i2 := ⟨_, rfl⟩
          have hpp : p = ⟨5, 104, h, q, 1, B⟩ := by rw [hpr, ← hi2]; unfold ringPg; rw [← hq, show i2 + 2 = h by omega]
          have hq9 : q ≤ 22 := by have := HOK.out i2; omega
          have hF := HF1.out j p hp
          have hjm : j < m := by have := (List.getElem?_eq_some_iff.1 hF).1; have := HMl.out; omega
          obtain ⟨adg, lkx, rfl, _, hxg, hcg⟩ := link_at (HRg.out.below HX.out) hjm
          rw [hF] at hxg
          injection hxg with hxg
          subst hxg
          obtain ⟨⟨d0, d1, d2, d3, d4, d5⟩, d6⟩ := hcg
          have hik : i2 < k := by omega
          obtain ⟨adl, yl, rfl, _, hyl, hcl⟩ := page_at (HLp.out.below HX.out) hik
          rw [HLat.out i2 hik] at hyl
          injection hyl with hyl
          rw [hi2, ← hpr] at hyl
          subst hyl
          obtain ⟨b0, b1, b2, b3, b4, b5⟩ := hcl
          have hw := HQ.out.cell h
          have hwz := HQ.out.frozen h
          have hwc : (wasC (C.take j) n2).toArray[h]? = some (.int .i64 0) := by
            rw [List.getElem?_toArray, wasC_at (by have := HN2.out; omega), hwi]
            rfl
          rw [hwc] at hw
          have HWc := Lib.hid hwc
          have HT := Lib.hid (show wasC (C.take j ++ [p]) n2 = (wasC (C.take j) n2).set h (.int .i64 1) by rw [← hpg]; exact (wasC_set (by have := HN2.out; omega)).symm)
          have HTk := Lib.hid (take_snoc_at hp)
          have HNx := Lib.hid hnx
          have HFj := Lib.hid hF
          subst hpp
          simp only at d0 d1 d2 d3 d4 d5 d6 b0 b1 b2 b3 b4 b5
          have r0 : (0 : Int) ≤ j := by omega
          have r1 : (j : Int) < m := by omega
          have r2 : (0 : Int) ≤ h := by omega
          have r3 : (h : Int) < n2 := by have := HN2.out; omega
          have r4 : decide ((h : Int) < 2) = false := by simp; omega
          have r4b : decide (h < 2) = false := by simp; omega
          have r5 : (h : Int) - 2 = (i2 : Int) := by omega
          have r6 : (0 : Int) ≤ i2 := by omega
          have r7 : (i2 : Int) < k := by omega
          have r8 : IntKind.i64.wrap (i2 : Int) = (i2 : Int) := i64_nat i2 (by omega)
          have r9 : wrap64 (i2 : Int) = (i2 : Int) := wrap64_nat i2 (by omega)
          have ra : IntKind.i64.wrap (q : Int) = (q : Int) := i64_nat q (by omega)
          have rb : wrap64 (q : Int) = (q : Int) := wrap64_nat q (by omega)
          have hj9 : j ≤ 100000 := by have := HCl.out; have := HIm9.out; omega
          have rc : IntKind.i64.wrap ((j : Int) + 1) = (j : Int) + 1 := by rw [IntKind.wrap_i64]; omega
          have rd : wrap64 ((j : Int) + 1) = (j : Int) + 1 := by unfold wrap64; omega
          clear hp hpr hpg hwi hnx hF hwc e1 hi2 hq hj
          go_upto_region 27 with fail
          go_quiet (fail)
          obtain ⟨wd, hwd⟩ : ∃ x, x = wr.drewN nq := ⟨_, rfl⟩
          have HQd := Lib.hid (show Blk wd g 3 (wasC (C.take j) n2).toArray by rw [hwd]; exact HQ.out.drewN _)
          have HXd := Lib.hid (show Below g x2 wd by rw [hwd]; exact below_drewN HX.out nq)
          rw [← hwd]
          clear hwd d0 d1 d2 d3 d4 d5 d6 b0 b1 b2 b3 b4 b5 hw hwz HQ HX
          have hw := HQd.out.cell h
          have hwz := HQd.out.frozen h
          have hwc : (wasC (C.take j) n2).toArray[h]? = some (.int .i64 0) := HWc.out
          rw [hwc] at hw
          clear hwc
          go_upto_region 30 with fail
          obtain ⟨ws, hws⟩ : ∃ x, x = wd.setCell ⟨g, h, none⟩ (.int .i64 1) := ⟨_, rfl⟩
          have HQs := Lib.hid (show Blk ws g 3 (wasC (C.take (j + 1)) n2).toArray by
            rw [hws, HTk.out, HT.out, ← List.setIfInBounds_toArray]
            exact HQd.out.set_ h _)
          have HXs := Lib.hid (show Below g x2 ws by rw [hws]; exact HXd.out.setCell (p := ⟨g, h, none⟩) (Nat.le_refl _) _)
          rw [← hws]
          clear hws hw hwz HQd HXd
          obtain ⟨ad', lk', ha', _, hx', hc'⟩ := link_at (HRg.out.below HXs.out) hjm
          injection ha' with ha'
          subst ha'
          rw [HFj.out] at hx'
          injection hx' with hx'
          subst hx'
          have d3 := hc'.1.2.2.2.1
          simp only at d3
          clear hc'
          go_wp2_with fail
          go_roundw
          case rel =>
            first
              | exact ⟨j + 1, q, hlt, by go_num, rfl, HNx, HQs, HXs⟩
              | ((repeat apply Exists.intro); refine ⟨⟨j + 1, q, hlt, ?_, rfl, HNx, HQs, HXs⟩, rfl⟩ <;> first | omega | go_num)
          case measure => simp [intOf]; first | exact meas_lt hjm rd | exact meas_lt2 hjm
        · obtain rfl : j = C.length := by omega
          obtain rfl : h = hend := HH.out.symm.trans HE1.out
          have hFin := Lib.hid (show Below w.heap.size w wr from HBw.out.trans (HX.out.mono HgH.out))
          have hj9 : C.length ≤ 100000 := by have := HCl.out; have := HIm9.out; omega
          rcases hok : chainOk 128 im 5 2 with _ | _
          · obtain ⟨hF, hfl⟩ := HF2.out hok
            have hmj : m = C.length + 1 := by rw [← HMl.out]; exact hfl
            have h0 : h ≠ 0 := by
              have h9 := HE2.out
              rw [hok] at h9
              exact of_decide_eq_false h9.symm
            obtain ⟨h2, hn1, hwi⟩ := HE3.out h0
            obtain ⟨adg, lkx, rfl, _, hxg, hcg⟩ := link_at (HRg.out.below HX.out) (show C.length < m by omega)
            rw [hF] at hxg
            injection hxg with hxg
            subst hxg
            have d6 := hcg.2
            have hw := HQ.out.cell h
            have hwc : (wasC (C.take C.length) n2).toArray[h]? = some (.int .i64 1) := by
              rw [List.getElem?_toArray, wasC_at (by have := HN2.out; omega), List.take_of_length_le (Nat.le_refl _), hwi]
              rfl
            rw [hwc] at hw
            simp only at d6
            have hmI : (C.length : Int) + 1 = (m : Int) := by omega
            have r0 : (0 : Int) ≤ (C.length : Int) := by omega
            have r1 : (C.length : Int) < m := by omega
            have r2 : (0 : Int) ≤ h := by omega
            have r3 : (h : Int) < n2 := by have := HN2.out; omega
            have rc : IntKind.i64.wrap (m : Int) = (m : Int) := i64_nat m (by omega)
            have rd : wrap64 (m : Int) = (m : Int) := wrap64_nat m (by omega)
            clear hF hfl hwc hcg hwi h0 hok hlt hj HQ hmj
            go_wp2_with fail
            go_ret
            exact ⟨rfl, hFin.out⟩
          · have hmj : m = C.length := by rw [← HMl.out]; exact HF3.out hok
            have h0 : h = 0 := by
              have h9 := HE2.out
              rw [hok] at h9
              exact of_decide_eq_true h9.symm
            subst h0
            subst hmj
            clear hok hlt hj
            have hRm := fun w => rroom_is 128 w rfl
            go_wp2_with (go_at_call 23; refine (hRm _).mono ?_; rintro e wq ⟨rfl, rfl⟩)
            go_ret
            exact ⟨rfl, hFin.out⟩
theorem chonce_walk (A : Option Addr) (n c : Nat) (zs : List Int) (w : World) (hz : IsRow .u32 w A n c zs) :
    Calls Try.prog 5 #[.slice A n c] w fun e w' => e = .returned (.bool true) ∧ Below w.heap.size w w' := by
  obtain ⟨nx, hr, hcc, _, hu⟩ := row_nats hz
  by_cases g1 : 20 < n
  · exact chonce_g1 A n c w g1
  by_cases g2 : n = 0
  · subst g2
    exact chonce_g2 A c w
  exact chonce_main A n c nx w hr hu (by omega) (by omega)
end Go.Proofs.Ytabhhccdbfjigaa
