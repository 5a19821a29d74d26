/-
  The walk of the statement BuildBegins: from every start, at every argument, it returns true and changes no block that was there before. (Written by wip/tools/gen_bubegins.py.)
-/
import Derived.Test.YtgnpldlgdapehaaBuKit
import Derived.Test.YtgnpldlgdapehaaBuPre
import Derived.Test.YtgnpldlgdapehaaBuLives
import Derived.Test.YtgnpldlgdapehaaOrder
import Derived.Deep.CutRange
namespace Go.Proofs.Ytgnpldlgdapehaa
open Go.RowKit
set_option linter.unusedVariables false
set_option linter.unusedSimpArgs false
attribute [local go_sem ↓] Go.wp_at_zero Go.wp_at_succ

theorem lit_u16' {x : Int} (h : (Lit.int .u16 x).wf = true) : 0 ≤ x ∧ x ≤ 65535 := by
  simp [Lit.wf, IntKind.min, IntKind.max, IntKind.signed, IntKind.bits] at h
  omega
/-- The sizes that the statement cuts. -/
def sizesN (m : Nat) (zs : List Int) : List Nat := zs.map fun z => z.toNat % (m + 1)
theorem sizesN_le {m : Nat} {zs : List Int} : ∀ x ∈ sizesN m zs, x ≤ m := by
  intro x hx
  obtain ⟨z, _, rfl⟩ := List.mem_map.1 hx
  exact Nat.le_of_lt_succ (Nat.mod_lt z.toNat (Nat.succ_pos m))
theorem sizesN_take (m : Nat) (zs : List Int) (k : Nat) : (sizesN m zs).take k = sizesN m (zs.take k) := by unfold sizesN; rw [List.map_take]
theorem sizesN_snoc {m : Nat} {zs : List Int} {k : Nat} {z : Int} (h : zs[k]? = some z) : sizesN m (zs.take (k + 1)) = sizesN m (zs.take k) ++ [z.toNat % (m + 1)] := by
  obtain ⟨hk, rfl⟩ := List.getElem?_eq_some_iff.1 h
  unfold sizesN
  rw [List.take_succ_eq_append_getElem hk, List.map_append]
  rfl
theorem i64_sum (a b : Nat) (h : a + b ≤ 1000000) : IntKind.i64.wrap ((a : Int) + (b : Int)) = (a : Int) + (b : Int) := by rw [IntKind.wrap_i64]; omega
theorem wrap64_sum (a b : Nat) (h : a + b ≤ 1000000) : wrap64 ((a : Int) + (b : Int)) = (a : Int) + (b : Int) := by unfold wrap64; omega
theorem upN (l : List Nat) : ncells l = icells (l.map upI) := icells_of l
theorem nread_at {w : World} {B n k : Nat} {A : Option Addr} {l : List Nat} (h : Reads w B 1 A n (ncells l)) (hk : k < n) : ∃ ad x, A = some ad ∧ ad.block < B ∧ l[k]? = some x ∧ w.cell? (ad.add k) = some (.int .i64 (x : Int)) := by
  rw [icells_of] at h
  obtain ⟨ad, y, ha, hb, hx, hc⟩ := iread_at h hk
  rw [List.getElem?_map, Option.map_eq_some_iff] at hx
  obtain ⟨x, hx, rfl⟩ := hx
  exact ⟨ad, x, ha, hb, hx, hc⟩
theorem nread_len {w : World} {B n : Nat} {A : Option Addr} {l : List Nat} (h : Reads w B 1 A n (ncells l)) : l.length = n := by
  have := h.1
  rw [ncells_len] at this
  omega
set_option maxRecDepth 100000 in
set_option maxHeartbeats 25600000 in
theorem bubegins_main (A : Option Addr) (n c : Nat) (zs : List Int) (r : Nat) (first : Int) (w : World) (hr : Reads w w.heap.size 1 A n (zs.map (Value.int .u16))) (hzl : zs.length = n) (hzw : ∀ z ∈ zs, 0 ≤ z ∧ z ≤ 65535) (h100 : n ≤ 100) (hr9 : r ≤ 65535) :
    Calls Try.prog 6 #[.slice A n c, .int .u16 (r : Int), .int .i64 first] w fun e w' => e = .returned (.bool true) ∧ Below w.heap.size w w' := by
  obtain ⟨i0, hi0, hz0, hz1, hz2⟩ := info_parts infoI13
  obtain ⟨m, hm⟩ : ∃ m, m = 1 + r % 1000 := ⟨_, rfl⟩
  have hm9 : m ≤ 1000 := by omega
  have u1 : Int.tmod (r : Int) 1000 = (r : Int) % 1000 := Int.tmod_eq_emod_of_nonneg (by omega)
  have u2 : (1 : Int) + (r : Int) % 1000 = (m : Int) := by omega
  have hlen : ¬ (100 : Int) < (n : Int) := by omega
  have HR := Lib.hid hr
  have HZL := Lib.hid hzl
  have HZW := Lib.hid hzw
  have HM9 := Lib.hid hm9
  have HN := Lib.hid h100
  have hm9i : (m : Int) ≤ 1000 := by omega
  clear hr hzl hzw hm hm9
  have HB := Lib.hid (Below.refl w.heap.size w)
  go_enter Try.func6, Try.ntmps6
  go_wp2_with fail
  refine (lives13_any _).mono ?_
  rintro e w1 ⟨rfl, hb⟩
  replace HB := Lib.hid (HB.out.trans (hb.mono HB.out.size))
  replace HR := Lib.hid ((HR.out.below hb).more hb.size)
  clear hb
  go_wp2_with fail
  go_loopw [8, 9] (fun vl vi wr => ∃ (k : Nat) (A' : Option Addr) (c' : Nat), k ≤ n ∧ vi = .int .i64 k ∧ vl = .slice A' k c' ∧ Hid (wr.ownsRow w1.heap.size 3 1 (.slice A' k c') k (ncells (sizesN m (zs.take k)))) ∧ Hid (Below w1.heap.size w1 wr)) (fun _ vi _ => n - (intOf vi).toNat)
  case atStart => exact ⟨0, none, 0, Nat.zero_le _, rfl, rfl, Lib.hid (World.ownsRow_nil _ _ _ _), Lib.hid (Below.refl _ _)⟩
  case round =>
    obtain ⟨k, A', c', hk, rfl, rfl, HO, HBr⟩ := hrel
    by_cases hlt : k < n
    · obtain ⟨ad, z, rfl, hab, hz, hc⟩ := int_at (HR.out.below HBr.out) hlt
      have hzz := HZW.out z (List.mem_of_getElem? hz)
      obtain ⟨zn, rfl⟩ := Int.eq_ofNat_of_zero_le hzz.1
      have HS := Lib.hid (sizesN_snoc (m := m) hz)
      have hj0 : (0 : Int) ≤ k := by omega
      have hj1 : (k : Int) < n := by omega
      have hsz := HBr.out.size
      obtain ⟨q, hq⟩ : ∃ q, q = zn % (m + 1) := ⟨_, rfl⟩
      have y1 : Int.tmod (zn : Int) ((m : Int) + 1) = (q : Int) := by rw [Int.tmod_eq_emod_of_nonneg (by omega), hq]; rfl
      have y2 : ((m : Int) + 1 = 0) = False := by simp; omega
      have y3 : ¬ ((m : Int) + 1 = 0) := by omega
      have HBase := Lib.hid (own_base HO.out)
      have HQ := Lib.hid hq
      clear hab hz hq
      go_wp2_with (at_builtin; refine wpList_append_any _ rfl (.tmp 33) (.tmp 42) _ rfl w1.heap.size 3 i0 _ 1 8 Try.underlying22 hi0 hz0 hz1 hz2 rfl (by omega) _ _ _ rfl (HO.out.alloc _) (wr.heap.size + 1) (some ⟨wr.heap.size, 0, none⟩) 1 1 [.int .i64 (q : Int)] rfl (one_read wr 3 (.int .i64 (q : Int))) (fun u hu => by simp at hu; subst hu; rfl) (by unfold maxLen; omega) (by omega) (by simp; omega) ?_; intro v5 w5 hown5 hg5 hat; obtain ⟨A5, c5, rfl, _, _, _⟩ := own_form hown5; clear hat)
      refine ⟨⟨k + 1, A5, c5, by omega, by go_num, rfl, Lib.hid ?_, Lib.hid ?_⟩, by simp [intOf]; omega⟩
      · rw [HS.out, show ((zn : Int)).toNat = zn by omega, ← HQ.out, ← ncells_snoc]
        exact hown5
      · exact (HBr.out.alloc hsz _).grown hg5 (by simp; omega) HBase.out
    · obtain rfl : k = n := by omega
      have hte : zs.take k = zs := List.take_of_length_le (by rw [HZL.out]; exact Nat.le_refl _)
      rw [hte] at HO
      obtain ⟨_, _, hv, hcc, hcm, _⟩ := own_form HO.out
      cases hv
      replace HB := Lib.hid (HB.out.trans (HBr.out.mono HB.out.size))
      have HL := Lib.hid (Reads.of_own HO.out)
      have HLE := Lib.hid (sizesN_le (m := m) (zs := zs))
      have HLN := Lib.hid (show (sizesN m zs).length = k by unfold sizesN; rw [List.length_map]; exact HZL.out)
      obtain ⟨L, hL⟩ : ∃ L, L = sizesN m zs := ⟨_, rfl⟩
      rw [← hL] at HL HLE HLN
      clear hlt hk hte hL HO HBr HR HZL HZW
      obtain ⟨f, hf⟩ : ∃ f : Nat, first % ((k + 1 : Nat) : Int) = (f : Int) := ⟨(first % ((k + 1 : Nat) : Int)).toNat, by have := Int.emod_nonneg first (show ((k + 1 : Nat) : Int) ≠ 0 by omega); omega⟩
      have hf9 : f ≤ k := by have := Int.emod_lt_of_pos first (show (0 : Int) < ((k + 1 : Nat) : Int) by omega); omega
      have hp := fun W => pick_any first (k + 1) W (by omega) (by omega)
      rw [hf] at hp
      rw [show ((k + 1 : Nat) : Int) = (k : Int) + 1 by omega] at hp
      have HP := Lib.hid hp
      have hk9 : k ≤ 100 := HN.out
      clear hp hf
      go_wp2_with fail
      refine (HP.out _).mono ?_
      rintro e w3 ⟨rfl, rfl⟩
      clear HP
      have hsl := ihead A' k c' f (f : Int) rfl hf9 hcc
      have HF9 := Lib.hid hf9
      have HI := Lib.hid (show ∀ q : List Nat, (∀ x ∈ q, x ≤ m) → ∀ x ∈ q.map upI, -9223372036854775808 ≤ x ∧ x ≤ 9223372036854775807 from fun q hq x hx => by
        obtain ⟨y, hy, rfl⟩ := List.mem_map.1 hx
        have := hq y hy
        have := HM9.out
        show -9223372036854775808 ≤ (y : Int) ∧ (y : Int) ≤ 9223372036854775807
        omega)
      have HL2 := Lib.hid (show Reads wr wr.heap.size 1 A' k (icells (L.map upI)) by rw [← upN]; exact HL.out)
      have HLk := Lib.hid (show Reads wr wr.heap.size 1 A' f (icells ((L.take f).map upI)) by have := itake HL2.out HF9.out; rwa [← List.map_take] at this)
      go_upto_region 12 with fail
      refine wp_region_held_drew (S := fun _ => True) (by kernel_rfl) (trivial) (fun _ => ?_)
      refine wpAnyH_takeL (i := 0) (v := ?_) rfl (by kernel_rfl) (by kernel_rfl) (by kernel_rfl) (fun _ _ _ h => h) (Or.inl ⟨by rfl, ?_⟩) (by first | exact hHeld | assumption | trivial) ?_
      rotate_left
      · intro wz hSz; (try dsimp only at hSz); go_simp; (try with_reducible rfl)
      try simp only [Act.put, List.setIfInBounds_toArray, List.set_cons_zero, List.set_cons_succ]
      refine wpAnyH_takeL (i := 2) (v := ?_) rfl (by kernel_rfl) (by kernel_rfl) (by kernel_rfl) (fun _ _ _ h => h) (Or.inl ⟨by rfl, ?_⟩) (by first | exact hHeld | assumption | trivial) ?_
      rotate_left
      · intro wz hSz; (try dsimp only at hSz); go_simp; (try with_reducible rfl)
      try simp only [Act.put, List.setIfInBounds_toArray, List.set_cons_zero, List.set_cons_succ]
      refine wpAnyH_takeL (i := 4) (v := ?_) rfl (by kernel_rfl) (by kernel_rfl) (by kernel_rfl) (fun _ _ _ h => h) (Or.inl ⟨by rfl, ?_⟩) (by first | exact hHeld | assumption | trivial) ?_
      rotate_left
      · intro wz hSz; (try dsimp only at hSz); go_simp; (try with_reducible rfl)
      try simp only [Act.put, List.setIfInBounds_toArray, List.set_cons_zero, List.set_cons_succ]
      refine wpAnyH_takeL (i := 5) (v := ?_) rfl (by kernel_rfl) (by kernel_rfl) (by kernel_rfl) (fun _ _ _ h => h) (Or.inl ⟨by rfl, ?_⟩) (by first | exact hHeld | assumption | trivial) ?_
      rotate_left
      · intro wz hSz; (try dsimp only at hSz); go_simp; (try with_reducible rfl)
      try simp only [Act.put, List.setIfInBounds_toArray, List.set_cons_zero, List.set_cons_succ]
      refine wpAnyH_takeL (i := 6) (v := ?_) rfl (by kernel_rfl) (by kernel_rfl) (by kernel_rfl) (fun _ _ _ h => h) (Or.inl ⟨by rfl, ?_⟩) (by first | exact hHeld | assumption | trivial) ?_
      rotate_left
      · intro wz hSz; (try dsimp only at hSz); go_simp; (try with_reducible rfl)
      try simp only [Act.put, List.setIfInBounds_toArray, List.set_cons_zero, List.set_cons_succ]
      refine wpAnyH_takeL (i := 8) (v := ?_) rfl (by kernel_rfl) (by kernel_rfl) (by kernel_rfl) (fun _ _ _ h => h) (Or.inl ⟨by rfl, ?_⟩) (by first | exact hHeld | assumption | trivial) ?_
      rotate_left
      · intro wz hSz; (try dsimp only at hSz); go_simp; (try with_reducible rfl)
      try simp only [Act.put, List.setIfInBounds_toArray, List.set_cons_zero, List.set_cons_succ]
      refine wpAnyH_ready (rs := [1]) (by kernel_rfl) (by simp) ?_
      refine AllReadyH.consL rfl (fun K hK => ?_) AllReadyH.nil
      go_simp
      refine (own13_any A' k c' (L.map upI) _ (Nat.le_refl _) (HL2.out.drew) (by have := HN.out; omega)).mono ?_
      rintro e w4 ⟨A4, c4, rfl, ho4, hc4, hb4⟩
      have HO4 := Lib.hid (Reads.of_own ho4)
      have HB4 := Lib.hid (show Below wr.heap.size wr w4 from (Below.refl _ wr).drew.trans hb4)
      clear ho4 hb4
      refine hK.out _ _ (trivial) (fun hHeld => ?_)
      clear hK K
      try simp only [Act.put, List.setIfInBounds_toArray, List.set_cons_zero, List.set_cons_succ]
      refine wpAnyH_ready (rs := [3]) (by kernel_rfl) (by simp) ?_
      refine AllReadyH.consL rfl (fun K hK => ?_) AllReadyH.nil
      go_simp
      refine (cut_any A4 k c4 (L.map upI) (m : Int) _ (Nat.le_refl _) HO4.out (by have := HN.out; omega) (HI.out L HLE.out) (by omega) (by omega)).mono ?_
      rintro e w5 ⟨A5, m5, c5, rfl, ho5, hb5⟩
      have HO5 := Lib.hid (Reads.of_own ho5)
      have HB5 := Lib.hid (HB4.out.trans (hb5.mono HB4.out.size))
      clear ho5 hb5 HO4 HB4
      refine hK.out _ _ (trivial) (fun hHeld => ?_)
      clear hK K
      try simp only [Act.put, List.setIfInBounds_toArray, List.set_cons_zero, List.set_cons_succ]
      refine wpAnyH_ready (rs := [7]) (by kernel_rfl) (by simp) ?_
      refine AllReadyH.consL rfl (fun K hK => ?_) AllReadyH.nil
      go_simp
      refine (own13_any A' f c' ((L.take f).map upI) _ HB5.out.size (HLk.out.below HB5.out) (by have := HN.out; have := HF9.out; omega)).mono ?_
      rintro e w6 ⟨A6, c6, rfl, ho6, hc6, hb6⟩
      have HO6 := Lib.hid (Reads.of_own ho6)
      have HB6 := Lib.hid (HB5.out.trans (hb6.mono HB5.out.size))
      replace HO5 := Lib.hid ((HO5.out.below hb6).more hb6.size)
      clear ho6 hb6 HB5
      refine hK.out _ _ (trivial) (fun hHeld => ?_)
      clear hK K
      try simp only [Act.put, List.setIfInBounds_toArray, List.set_cons_zero, List.set_cons_succ]
      refine wpAnyH_ready (rs := [9]) (by kernel_rfl) (by simp) ?_
      refine AllReadyH.consL rfl (fun K hK => ?_) AllReadyH.nil
      go_simp
      refine (cut_any A6 f c6 ((L.take f).map upI) (m : Int) _ (Nat.le_refl _) HO6.out (by have := HN.out; have := HF9.out; omega) (HI.out (L.take f) (fun x hx => HLE.out x (List.mem_of_mem_take hx))) (by omega) (by omega)).mono ?_
      rintro e w7 ⟨A7, m7, c7, rfl, ho7, hb7⟩
      have HO7 := Lib.hid (Reads.of_own ho7)
      have HB7 := Lib.hid (HB6.out.trans (hb7.mono HB6.out.size))
      replace HO5 := Lib.hid ((HO5.out.below hb7).more hb7.size)
      clear ho7 hb7 HB6 HO6
      refine hK.out _ _ (trivial) (fun hHeld => ?_)
      clear hK K
      try simp only [Act.put, List.setIfInBounds_toArray, List.set_cons_zero, List.set_cons_succ]
      refine wpAnyH_takeL (i := 10) (v := ?_) rfl (by kernel_rfl) (by kernel_rfl) (by kernel_rfl) (fun _ _ _ h => h) (Or.inl ⟨by rfl, ?_⟩) (by first | exact hHeld | assumption | trivial) ?_
      rotate_left
      · intro wz hSz; (try dsimp only at hSz); go_simp; (try with_reducible rfl)
      try simp only [Act.put, List.setIfInBounds_toArray, List.set_cons_zero, List.set_cons_succ]
      refine wpAnyH_takeL (i := 11) (v := ?_) rfl (by kernel_rfl) (by kernel_rfl) (by kernel_rfl) (fun _ _ _ h => h) (Or.inl ⟨by rfl, ?_⟩) (by first | exact hHeld | assumption | trivial) ?_
      rotate_left
      · intro wz hSz; (try dsimp only at hSz); go_simp; (try with_reducible rfl)
      try simp only [Act.put, List.setIfInBounds_toArray, List.set_cons_zero, List.set_cons_succ]
      refine wpAnyH_done (by kernel_rfl) ?_ _
      replace HB := Lib.hid (HB.out.trans (HB7.out.mono HB.out.size))
      replace HL := Lib.hid ((HL2.out.below HB7.out).more HB7.out.size)
      have HN100 := HN
      clear HLk HL2 HB7 hsl HN hk9
      have hl5 := nread_len HO5.out
      have hl7 := nread_len HO7.out
      by_cases hk0 : k = 0
      · subst hk0
        have hL0 : L = [] := List.eq_nil_of_length_eq_zero HLN.out
        subst hL0
        have hf0 : f = 0 := by have := HF9.out; omega
        subst hf0
        have e5 : m5 = 0 := by rw [← hl5]; rfl
        have e7 : m7 = 0 := by rw [← hl7]; rfl
        subst e5 e7
        clear hl5 hl7
        go_wp2_with fail
        go_loopw [13] (fun vi wr => vi = .int .i64 0 ∧ wr = w7) (fun _ _ => 0)
        case atStart => exact ⟨rfl, rfl⟩
        case round =>
          obtain ⟨rfl, rfl⟩ := hrel
          go_wp2_with fail
          go_loopw [14, 15] (fun va vi wr' => va = .int .i64 0 ∧ vi = .int .i64 0 ∧ wr' = wr) (fun _ _ _ => 0)
          case atStart => exact ⟨rfl, rfl, rfl⟩
          case round =>
            obtain ⟨rfl, rfl, rfl⟩ := hrel
            go_wp2_with fail
            go_ret
            exact ⟨rfl, HB.out⟩
      obtain ⟨E, e1, e2, e3⟩ := cutL_segs (l := L) (room := m) HLE.out (by rintro rfl; exact hk0 HLN.out.symm)
      rw [HLN.out] at e1 e2 e3
      rw [e1] at HO5 hl5
      have h5a : m5 = E.length + 1 := by rw [← hl5]; simp
      subst h5a
      have HE3 := Lib.hid e3
      have hEk : E.length < k := e2
      have h7 : m7 ≤ E.length + 1 ∧ ∀ i, i + 1 < m7 → ∃ x, (E ++ [k])[i]? = some x ∧ (cutL ((L.take f).map upI) m)[i]? = some x := by
        rcases Nat.eq_zero_or_pos f with hf0 | hf0
        · subst hf0
          have : m7 = 0 := by rw [← hl7]; rfl
          subst this
          exact ⟨Nat.zero_le _, fun i hi => by omega⟩
        · obtain ⟨F, G, f1, f2, f3⟩ := cutL_first (l := L) (room := m) (k := f) HLE.out (by rw [HLN.out]; exact HF9.out) hf0
          rw [e1, HLN.out] at f2
          have f4 := List.append_inj_left' f2 rfl
          subst f4
          rw [f1] at hl7 ⊢
          have h7a : m7 = F.length + 1 := by rw [← hl7]; simp
          obtain ⟨G, rfl⟩ := f3
          refine ⟨by rw [h7a, List.length_append]; omega, fun i hi => ?_⟩
          have hiF : i < F.length := by omega
          refine ⟨F[i], ?_, ?_⟩
          · rw [List.append_assoc, List.getElem?_append_left hiF, List.getElem?_eq_getElem hiF]
          · rw [List.getElem?_append_left hiF, List.getElem?_eq_getElem hiF]
      obtain ⟨h7a, h7b⟩ := h7
      have H7 := Lib.hid h7b
      obtain ⟨Q, hQ⟩ : ∃ Q, Q = cutL ((L.take f).map upI) m := ⟨_, rfl⟩
      rw [← hQ] at HO7 H7
      have HLst := Lib.hid (show (E ++ [k])[E.length]? = some k by simp)
      obtain ⟨ES, hES⟩ : ∃ ES, ES = E ++ [k] := ⟨_, rfl⟩
      rw [← hES] at HO5 HE3 H7 HLst
      obtain ⟨z, hz⟩ : ∃ z, z = E.length := ⟨_, rfl⟩
      rw [← hz] at HO5 hEk h7a HLst ⊢
      obtain ⟨ad5, x5, rfl, hab5, hx5, hc5⟩ := nread_at HO5.out (Nat.lt_succ_self z)
      rw [HLst.out] at hx5
      injection hx5 with hx5
      subst hx5
      have k1 : (0 : Int) < (k : Int) := by omega
      have k2 : ((z + 1 : Nat) : Int) - 1 = (z : Int) := by omega
      have k3 : (((z + 1 : Nat) : Int) == 0) = false := by simp; omega
      have k4 : ¬ ((z + 1 : Nat) : Int) < (m7 : Int) := by omega
      have k5 : ((k : Int) != (k : Int)) = false := by simp
      have k6 : ((k : Nat) != k) = false := by simp
      have k7 : ¬ ((z + 1 : Nat) : Int) = 0 := by omega
      have k8 : decide (((z + 1 : Nat) : Int) < (m7 : Int)) = false := by simp; omega
      have k9 : decide ((z + 1 : Nat) < m7) = false := by simp; omega
      have k10 : ((z + 1 : Nat) == 0) = false := by simp
      have k11 : (0 : Int) ≤ (z : Int) := by omega
      have k12 : (z : Int) < ((z + 1 : Nat) : Int) := by omega
      have k15 : ((z : Int) + 1 == 0) = false := by simp; omega
      have k16 : ¬ (z : Int) + 1 < (m7 : Int) := by omega
      have k17 : (m7 : Int) ≤ (z : Int) + 1 := by omega
      have k18 : decide ((z : Int) + 1 < (m7 : Int)) = false := by simp; omega
      have k13 : decide (0 < k) = true := by simp; omega
      have k14 : decide ((0 : Int) < (k : Int)) = true := by simp; omega
      clear hES hz hQ hl5 hl7 e1 e2 e3 h7b
      go_wp2_with fail
      clear k1 k3 k4 k5 k6 k7 k8 k9 k10 k11 k12 k13 k14 k15 k16 k17 k18 hc5
      go_loopw [13] (fun vi wr => ∃ i : Nat, i ≤ 100 ∧ vi = .int .i64 i ∧ ∃ q, wr = w7.drewN q) (fun vi _ => m7 - (intOf vi).toNat)
      case atStart => exact ⟨0, by omega, rfl, 0, rfl⟩
      case round =>
        obtain ⟨i, hi9, rfl, q, hq⟩ := hrel
        by_cases hlt : i + 1 < m7
        · obtain ⟨x, hx1, hx2⟩ := H7.out i hlt
          obtain ⟨ad7, x7, rfl, hab7, hx7, hc7⟩ := nread_at HO7.out (show i < m7 by omega)
          obtain ⟨ad5', x5, hA5, _, hx5, hc5⟩ := nread_at HO5.out (show i < z + 1 by omega)
          injection hA5 with hA5
          subst hA5
          rw [hx1] at hx5
          rw [hx2] at hx7
          injection hx5 with hx5
          injection hx7 with hx7
          subst hx5 hx7
          have hc7 : wr.cell? (ad7.add i) = some (.int .i64 (x : Int)) := by rw [hq]; exact hc7
          have hc5 : wr.cell? (ad5.add i) = some (.int .i64 (x : Int)) := by rw [hq]; exact hc5
          have j0 : (0 : Int) ≤ i := by omega
          have j1 : (i : Int) < m7 := by omega
          have j2 : (i : Int) < ((z + 1 : Nat) : Int) := by omega
          have j3 : (i : Int) + 1 < m7 := by omega
          have he := fun w => i64_noteq (x : Int) w
          have HQ := Lib.hid hq
          clear hq hx1 hx2 hab7
          go_wp2_with fail
          go_quiet (fail)
          go_wp2_with fail
          go_roundw
          case rel =>
            have hqq : ∃ q', wr.drewN nq = w7.drewN q' := ⟨q + nq, by rw [HQ.out, World.drewN_drewN]⟩
            first
              | exact ⟨i + 1, by omega, by go_num, hqq⟩
              | ((repeat apply Exists.intro); exact ⟨⟨i + 1, by omega, by go_num, hqq⟩, rfl⟩)
          case measure => simp [intOf]; omega
        · have j3 : ¬ (i : Int) + 1 < m7 := by omega
          have hb := below_drewN (Below.refl w7.heap.size w7) q
          rw [← hq] at hb
          replace HB := Lib.hid (HB.out.trans (hb.mono HB.out.size))
          replace HO5 := Lib.hid ((HO5.out.below hb).more hb.size)
          replace HL := Lib.hid ((HL.out.below hb).more hb.size)
          clear hb hq HO7 H7
          obtain ⟨w8, hw8⟩ : ∃ y, y = wr := ⟨_, rfl⟩
          rw [← hw8] at HB HO5 HL
          subst hw8
          go_wp2_with fail
          clear j3
          have HPv := Lib.hid (show prevE ES 0 = 0 from rfl)
          go_loopw [14, 15] (fun va vi wr => ∃ i : Nat, i ≤ z + 1 ∧ vi = .int .i64 i ∧ va = .int .i64 (prevE ES i : Nat) ∧ Hid (Below w8.heap.size w8 wr)) (fun _ vi _ => z + 1 - (intOf vi).toNat)
          case atStart => exact ⟨0, by omega, rfl, rfl, Lib.hid (Below.refl _ _)⟩
          case round =>
            obtain ⟨i2, hi2, rfl, rfl, HBr⟩ := hrel
            obtain ⟨W1, hW1⟩ : ∃ y, y = wr := ⟨_, rfl⟩
            subst hW1
            have hS1 := HBr.out.size
            by_cases hlt : i2 < z + 1
            · obtain ⟨ad5', e, hA5, hab8, hx5, hc5⟩ := nread_at (HO5.out.below HBr.out) hlt
              injection hA5 with hA5
              subst hA5
              obtain ⟨g1, g2, g3, g4⟩ := HE3.out i2 e hx5
              have HNx := Lib.hid (show prevE ES (i2 + 1) = e by unfold prevE; rw [if_neg (by omega), Nat.add_sub_cancel, List.getD_eq_getElem?_getD, hx5]; rfl)
              obtain ⟨s, hs⟩ : ∃ s, s = prevE ES i2 := ⟨_, rfl⟩
              rw [← hs] at g1 g3 g4 ⊢
              have HLw := Lib.hid (HL.out.below HBr.out)
              have p0 : (0 : Int) ≤ i2 := by omega
              have p1 : (i2 : Int) < ((z + 1 : Nat) : Int) := by omega
              have p2 : ¬ (e : Int) ≤ (s : Int) := by omega
              have p3 : ¬ (k : Int) < (e : Int) := by omega
              have p4 : decide ((e : Int) ≤ (s : Int)) = false := by simp; omega
              have p5 : decide (e ≤ s) = false := by simp; omega
              have p6 : decide ((k : Int) < (e : Int)) = false := by simp; omega
              have p7 : decide (k < e) = false := by simp; omega
              have G3 := Lib.hid g3
              have G4 := Lib.hid g4
              have G1 := Lib.hid g1
              have G2 := Lib.hid g2
              clear hs hx5 g1 g2 g3 g4
              go_wp2_with fail
              clear p2 p3 p4 p5 p6 p7
              have HC5 := Lib.hid hc5
              have HAB := Lib.hid hab8
              clear hab8
              go_loopw [16, 17] (fun vs vj wr' => ∃ j : Nat, s ≤ j ∧ j ≤ e ∧ vj = .int .i64 j ∧ vs = .int .i64 ((preS L j - preS L s : Nat) : Int) ∧ Hid (wr' = W1)) (fun _ vj _ => e - (intOf vj).toNat)
              case atStart => exact ⟨s, Nat.le_refl _, Nat.le_of_lt G1.out, rfl, by simp, Lib.hid rfl⟩
              case round =>
                obtain ⟨j, hj1, hj2, rfl, rfl, hwr⟩ := hrel
                obtain rfl := hwr.out
                clear hwr
                have hc5 := HC5.out
                by_cases hlt2 : j < e
                · obtain ⟨adL, xI, hAL, _, hxL, hcL⟩ := iread_at HLw.out (show j < k by have := G2.out; omega)
                  rw [List.getElem?_map, Option.map_eq_some_iff] at hxL
                  obtain ⟨x, hxL, rfl⟩ := hxL
                  subst hAL
                  replace hcL : wr.cell? (adL.add j) = some (.int .i64 (x : Int)) := hcL
                  have hp := preS_succ hxL
                  have hpm : preS L s ≤ preS L j := by have := preS_seg (l := L) hj1; omega
                  have hpe : preS L j ≤ preS L e := by have := preS_seg (l := L) hj2; omega
                  have hpe2 : preS L (j + 1) ≤ preS L e := by have := preS_seg (l := L) (show j + 1 ≤ e by omega); omega
                  have hg3 := G3.out
                  have hm9 := HM9.out
                  have q0 : (0 : Int) ≤ j := by omega
                  have q1 : (j : Int) < k := by have := G2.out; omega
                  have q2 : (j : Int) < (e : Int) := by omega
                  obtain ⟨t, ht⟩ : ∃ t, t = preS L j - preS L s := ⟨_, rfl⟩
                  have ht2 : preS L (j + 1) - preS L s = t + x := by omega
                  have ht9 : t + x ≤ 1000 := by omega
                  have HT2 := Lib.hid ht2
                  rw [← ht]
                  clear hxL hp hpm hpe hpe2 hg3 hm9 ht ht2
                  go_wp2_with fail
                  go_roundw
                  case rel =>
                    first
                      | exact ⟨j + 1, by omega, by omega, by go_num, by (first | (rw [HT2.out]; done) | simp [HT2.out]), Lib.hid (by trivial)⟩
                      | ((repeat apply Exists.intro); exact ⟨⟨j + 1, by omega, by omega, by go_num, by (first | (rw [HT2.out]; done) | simp [HT2.out]), Lib.hid (by trivial)⟩, rfl⟩)
                  case measure => simp [intOf]; omega
                · obtain rfl : j = e := by omega
                  have q2 : ¬ (j : Int) < (j : Int) := by omega
                  go_wp2_with fail
                  have hpm := preS_seg (l := L) (s := s) (e := j) (Nat.le_of_lt G1.out)
                  have hqs : ((L.drop s).take (j - s)).sum ≤ m := by have := G3.out; omega
                  obtain ⟨q, hq⟩ : ∃ q, q = (L.drop s).take (j - s) := ⟨_, rfl⟩
                  have hql : q.length = j - s := by rw [hq, List.length_take, List.length_drop, HLN.out]; have := G2.out; omega
                  have hqe : ∀ x ∈ q, x ≤ m := fun x hx => HLE.out x (by rw [hq] at hx; exact List.mem_of_mem_drop (List.mem_of_mem_take hx))
                  rw [← hq] at hqs hpm
                  have hone : cutL (q.map upI) m = [j - s] := by rw [cutL_one hqs (by rintro rfl; have := G1.out; simp at hql; omega), hql]
                  obtain ⟨X, hX, hXr⟩ := imid A' k c' s j (s : Int) (j : Int) rfl rfl (Nat.le_of_lt G1.out) (by have := G2.out; omega)
                  have hRX : Reads wr w8.heap.size 1 X (j - s) (icells (q.map upI)) := by
                    have h1 := idrop (c := c') HLw.out (k := s) (by have := G1.out; have := G2.out; omega) hcc
                    rw [← hX] at h1
                    have h2 := itake h1 (k := j - s) (by have := G2.out; omega)
                    rw [← List.map_drop, ← List.map_take, ← hq] at h2
                    exact h2
                  have hI := HI.out q hqe
                  have HRX := Lib.hid hRX
                  have HONE := Lib.hid hone
                  have HII := Lib.hid hI
                  have HQL := Lib.hid hql
                  have hks : j - s ≤ 1000 := by have := G2.out; have := HN100.out; omega
                  have es : (j : Int) - (s : Int) = ((j - s : Nat) : Int) := by have := G1.out; omega
                  have hks9 : j - s < 9223372036854775808 := Nat.lt_of_le_of_lt hks (by decide)
                  have hle9 : preS L j - preS L s ≤ m := by have := G3.out; omega
                  obtain ⟨t, ht⟩ : ∃ t, t = preS L j - preS L s := ⟨_, rfl⟩
                  rw [← ht] at hle9 ⊢
                  have r1 : decide ((m : Int) < (t : Int)) = false := by simp; omega
                  have r2 : decide (m < t) = false := by simp; omega
                  have r5 : (0 : Int) ≤ (i2 : Int) := by omega
                  have r6 : (i2 : Int) < ((z + 1 : Nat) : Int) := by omega
                  have r7 : (i2 : Int) < (z : Int) + 1 := by omega
                  have HT := Lib.hid (show m < t + 0 + (m + 1) by omega)
                  have HW1 := Lib.hid (show w8.heap.size ≤ wr.heap.size from hS1)
                  have hg4 : j < k → ∃ (adL : Addr) (x : Nat), A' = some adL ∧ adL.block < w8.heap.size ∧ wr.cell? (adL.add j) = some (.int .i64 (x : Int)) ∧ m < t + x ∧ x ≤ m := fun hjk => by
                    obtain ⟨adL, xI, hAL, habL, hxL, hcL⟩ := iread_at HLw.out hjk
                    rw [List.getElem?_map, Option.map_eq_some_iff] at hxL
                    obtain ⟨x, hxL, rfl⟩ := hxL
                    have h1 := G4.out hjk
                    have h2 := preS_succ hxL
                    exact ⟨adL, x, hAL, habL, hcL, by omega, HLE.out x (List.mem_of_getElem? hxL)⟩
                  have G5 := Lib.hid hg4
                  clear hq hqs hql hqe hone hRX hI hpm hX q2 hg4 ht
                  by_cases hjk : j < k
                  · obtain ⟨adL, x, hAL, habL, hcL, hxm, hxm2⟩ := G5.out hjk
                    subst hAL
                    have r3 : decide ((j : Int) < (k : Int)) = true := by simp; omega
                    have r3' : decide (j < k) = true := by simp; omega
                    have r4 : decide ((t : Int) + (x : Int) ≤ (m : Int)) = false := by simp; omega
                    have r4' : decide (t + x ≤ m) = false := by simp; omega
                    have r8 : (0 : Int) ≤ (j : Int) := by omega
                    have hsum : t + x ≤ 1000000 := by omega
                    have r9 : (j : Int) < (k : Int) := by omega
                    have r10 := i64_sum t x hsum
                    have r11 := wrap64_sum t x hsum
                    have es2 := i64_nat (j - s) hks9
                    have es3 := wrap64_nat (j - s) hks9
                    go_upto_region 31 with fail
                    refine wp_region_held_drew (S := (fun w' => w'.cell? (ad5.add i2) = some (.int .i64 (j : Int)) ∧ w'.cell? (adL.add j) = some (.int .i64 (x : Int)))) (by kernel_rfl) (show _ ∧ _ from ⟨HC5.out, hcL⟩) (fun _ => ?_)
                    refine wpAnyH_takeL (i := 0) (v := ?_) rfl (by kernel_rfl) (by kernel_rfl) (by kernel_rfl) (fun _ _ _ h => h) (Or.inl ⟨by rfl, ?_⟩) (by first | exact hHeld | assumption | trivial) ?_
                    rotate_left
                    · intro wz hSz; (try dsimp only at hSz); go_simp; (try with_reducible rfl)
                    try simp only [Act.put, List.setIfInBounds_toArray, List.set_cons_zero, List.set_cons_succ]
                    refine wpAnyH_takeL (i := 1) (v := ?_) rfl (by kernel_rfl) (by kernel_rfl) (by kernel_rfl) (fun _ _ _ h => h) (Or.inl ⟨by rfl, ?_⟩) (by first | exact hHeld | assumption | trivial) ?_
                    rotate_left
                    · intro wz hSz; (try dsimp only at hSz); go_simp; (try with_reducible rfl)
                    try simp only [Act.put, List.setIfInBounds_toArray, List.set_cons_zero, List.set_cons_succ]
                    refine wpAnyH_takeL (i := 2) (v := ?_) rfl (by kernel_rfl) (by kernel_rfl) (by kernel_rfl) (fun _ _ _ h => h) (Or.inl ⟨by rfl, ?_⟩) (by first | exact hHeld | assumption | trivial) ?_
                    rotate_left
                    · intro wz hSz; (try dsimp only at hSz); go_simp; (try with_reducible rfl)
                    try simp only [Act.put, List.setIfInBounds_toArray, List.set_cons_zero, List.set_cons_succ]
                    refine wpAnyH_takeL (i := 3) (v := ?_) rfl (by kernel_rfl) (by kernel_rfl) (by kernel_rfl) (fun _ _ _ h => h) (Or.inl ⟨by rfl, ?_⟩) (by first | exact hHeld | assumption | trivial) ?_
                    rotate_left
                    · intro wz hSz; (try dsimp only at hSz); go_simp; (try with_reducible rfl)
                    try simp only [Act.put, List.setIfInBounds_toArray, List.set_cons_zero, List.set_cons_succ]
                    refine wpAnyH_takeL (i := 4) (v := ?_) rfl (by kernel_rfl) (by kernel_rfl) (by kernel_rfl) (fun _ _ _ h => h) (Or.inl ⟨by rfl, ?_⟩) (by first | exact hHeld | assumption | trivial) ?_
                    rotate_left
                    · intro wz hSz; (try dsimp only at hSz); go_simp; (try with_reducible rfl)
                    try simp only [Act.put, List.setIfInBounds_toArray, List.set_cons_zero, List.set_cons_succ]
                    refine wpAnyH_takeL (i := 5) (v := ?_) rfl (by kernel_rfl) (by kernel_rfl) (by kernel_rfl) (fun _ _ _ h => h) (Or.inl ⟨by rfl, ?_⟩) (by first | exact hHeld | assumption | trivial) ?_
                    rotate_left
                    · intro wz hSz; (try dsimp only at hSz); go_simp; (try with_reducible rfl)
                    try simp only [Act.put, List.setIfInBounds_toArray, List.set_cons_zero, List.set_cons_succ]
                    refine wpAnyH_takeL (i := 6) (v := ?_) rfl (by kernel_rfl) (by kernel_rfl) (by kernel_rfl) (fun _ _ _ h => h) (Or.inl ⟨by rfl, ?_⟩) (by first | exact hHeld | assumption | trivial) ?_
                    rotate_left
                    · intro wz hSz; (try dsimp only at hSz); go_simp; (try with_reducible rfl)
                    try simp only [Act.put, List.setIfInBounds_toArray, List.set_cons_zero, List.set_cons_succ]
                    refine wpAnyH_takeL (i := 7) (v := ?_) rfl (by kernel_rfl) (by kernel_rfl) (by kernel_rfl) (fun _ _ _ h => h) (Or.inl ⟨by rfl, ?_⟩) (by first | exact hHeld | assumption | trivial) ?_
                    rotate_left
                    · intro wz hSz; (try dsimp only at hSz); go_simp; (try with_reducible rfl)
                    try simp only [Act.put, List.setIfInBounds_toArray, List.set_cons_zero, List.set_cons_succ]
                    refine wpAnyH_takeL (i := 8) (v := ?_) rfl (by kernel_rfl) (by kernel_rfl) (by kernel_rfl) (fun _ _ _ h => h) (Or.inl ⟨by rfl, ?_⟩) (by first | exact hHeld | assumption | trivial) ?_
                    rotate_left
                    · intro wz hSz; (try dsimp only at hSz); go_simp; (try with_reducible rfl)
                    try simp only [Act.put, List.setIfInBounds_toArray, List.set_cons_zero, List.set_cons_succ]
                    refine wpAnyH_takeL (i := 9) (v := ?_) rfl (by kernel_rfl) (by kernel_rfl) (by kernel_rfl) (fun _ _ _ h => h) (Or.inl ⟨by rfl, ?_⟩) (by first | exact hHeld | assumption | trivial) ?_
                    rotate_left
                    · intro wz hSz; (try dsimp only at hSz); go_simp; (try with_reducible rfl)
                    try simp only [Act.put, List.setIfInBounds_toArray, List.set_cons_zero, List.set_cons_succ]
                    refine wpAnyH_takeL (i := 10) (v := ?_) rfl (by kernel_rfl) (by kernel_rfl) (by kernel_rfl) (fun _ _ _ h => h) (Or.inl ⟨by rfl, ?_⟩) (by first | exact hHeld | assumption | trivial) ?_
                    rotate_left
                    · intro wz hSz; (try dsimp only at hSz); go_simp; (try with_reducible rfl)
                    try simp only [Act.put, List.setIfInBounds_toArray, List.set_cons_zero, List.set_cons_succ]
                    refine wpAnyH_takeL (i := 11) (v := ?_) rfl (by kernel_rfl) (by kernel_rfl) (by kernel_rfl) (fun _ _ _ h => h) (Or.inl ⟨by rfl, ?_⟩) (by first | exact hHeld | assumption | trivial) ?_
                    rotate_left
                    · intro wz hSz; (try dsimp only at hSz); go_simp; (try with_reducible rfl)
                    try simp only [Act.put, List.setIfInBounds_toArray, List.set_cons_zero, List.set_cons_succ]
                    refine wpAnyH_takeL (i := 12) (v := ?_) rfl (by kernel_rfl) (by kernel_rfl) (by kernel_rfl) (fun _ _ _ h => h) (Or.inl ⟨by rfl, ?_⟩) (by first | exact hHeld | assumption | trivial) ?_
                    rotate_left
                    · intro wz hSz; (try dsimp only at hSz); go_simp; (try with_reducible rfl)
                    try simp only [Act.put, List.setIfInBounds_toArray, List.set_cons_zero, List.set_cons_succ]
                    refine wpAnyH_takeL (i := 13) (v := ?_) rfl (by kernel_rfl) (by kernel_rfl) (by kernel_rfl) (fun _ _ _ h => h) (Or.inl ⟨by rfl, ?_⟩) (by first | exact hHeld | assumption | trivial) ?_
                    rotate_left
                    · intro wz hSz; (try dsimp only at hSz); go_simp; (try with_reducible rfl)
                    try simp only [Act.put, List.setIfInBounds_toArray, List.set_cons_zero, List.set_cons_succ]
                    refine wpAnyH_takeL (i := 14) (v := ?_) rfl (by kernel_rfl) (by kernel_rfl) (by kernel_rfl) (fun _ _ _ h => h) (Or.inl ⟨by rfl, ?_⟩) (by first | exact hHeld | assumption | trivial) ?_
                    rotate_left
                    · intro wz hSz; (try dsimp only at hSz); go_simp; (try with_reducible rfl)
                    try simp only [Act.put, List.setIfInBounds_toArray, List.set_cons_zero, List.set_cons_succ]
                    refine wpAnyH_takeL (i := 15) (v := ?_) rfl (by kernel_rfl) (by kernel_rfl) (by kernel_rfl) (fun _ _ _ h => h) (Or.inl ⟨by rfl, ?_⟩) (by first | exact hHeld | assumption | trivial) ?_
                    rotate_left
                    · intro wz hSz; (try dsimp only at hSz); go_simp; (try with_reducible rfl)
                    try simp only [Act.put, List.setIfInBounds_toArray, List.set_cons_zero, List.set_cons_succ]
                    refine wpAnyH_takeL (i := 16) (v := ?_) rfl (by kernel_rfl) (by kernel_rfl) (by kernel_rfl) (fun _ _ _ h => h) (Or.inl ⟨by rfl, ?_⟩) (by first | exact hHeld | assumption | trivial) ?_
                    rotate_left
                    · intro wz hSz; (try dsimp only at hSz); go_simp; (try with_reducible rfl)
                    try simp only [Act.put, List.setIfInBounds_toArray, List.set_cons_zero, List.set_cons_succ]
                    refine wpAnyH_takeL (i := 17) (v := ?_) rfl (by kernel_rfl) (by kernel_rfl) (by kernel_rfl) (fun _ _ _ h => h) (Or.inl ⟨by rfl, ?_⟩) (by first | exact hHeld | assumption | trivial) ?_
                    rotate_left
                    · intro wz hSz; (try dsimp only at hSz); go_simp; (try with_reducible rfl)
                    try simp only [Act.put, List.setIfInBounds_toArray, List.set_cons_zero, List.set_cons_succ]
                    refine wpAnyH_takeL (i := 18) (v := ?_) rfl (by kernel_rfl) (by kernel_rfl) (by kernel_rfl) (fun _ _ _ h => h) (Or.inl ⟨by rfl, ?_⟩) (by first | exact hHeld | assumption | trivial) ?_
                    rotate_left
                    · intro wz hSz; (try dsimp only at hSz); go_simp; (try with_reducible rfl)
                    try simp only [Act.put, List.setIfInBounds_toArray, List.set_cons_zero, List.set_cons_succ]
                    refine wpAnyH_takeL (i := 19) (v := ?_) rfl (by kernel_rfl) (by kernel_rfl) (by kernel_rfl) (fun _ _ _ h => h) (Or.inl ⟨by rfl, ?_⟩) (by first | exact hHeld | assumption | trivial) ?_
                    rotate_left
                    · intro wz hSz; (try dsimp only at hSz); go_simp; (try with_reducible rfl)
                    try simp only [Act.put, List.setIfInBounds_toArray, List.set_cons_zero, List.set_cons_succ]
                    refine wpAnyH_takeL (i := 20) (v := ?_) rfl (by kernel_rfl) (by kernel_rfl) (by kernel_rfl) (fun _ _ _ h => h) (Or.inl ⟨by rfl, ?_⟩) (by first | exact hHeld | assumption | trivial) ?_
                    rotate_left
                    · intro wz hSz; (try dsimp only at hSz); go_simp; (try with_reducible rfl)
                    try simp only [Act.put, List.setIfInBounds_toArray, List.set_cons_zero, List.set_cons_succ]
                    refine wpAnyH_takeL (i := 21) (v := ?_) rfl (by kernel_rfl) (by kernel_rfl) (by kernel_rfl) (fun _ _ _ h => h) (Or.inl ⟨by rfl, ?_⟩) (by first | exact hHeld | assumption | trivial) ?_
                    rotate_left
                    · intro wz hSz; (try dsimp only at hSz); go_simp; (try with_reducible rfl)
                    try simp only [Act.put, List.setIfInBounds_toArray, List.set_cons_zero, List.set_cons_succ]
                    refine wpAnyH_takeL (i := 22) (v := ?_) rfl (by kernel_rfl) (by kernel_rfl) (by kernel_rfl) (fun _ _ _ h => h) (Or.inl ⟨by rfl, ?_⟩) (by first | exact hHeld | assumption | trivial) ?_
                    rotate_left
                    · intro wz hSz; (try dsimp only at hSz); go_simp; (try with_reducible rfl)
                    try simp only [Act.put, List.setIfInBounds_toArray, List.set_cons_zero, List.set_cons_succ]
                    refine wpAnyH_takeL (i := 23) (v := ?_) rfl (by kernel_rfl) (by kernel_rfl) (by kernel_rfl) (fun _ _ _ h => h) (Or.inl ⟨by rfl, ?_⟩) (by first | exact hHeld | assumption | trivial) ?_
                    rotate_left
                    · intro wz hSz; (try dsimp only at hSz); go_simp; (try with_reducible rfl)
                    try simp only [Act.put, List.setIfInBounds_toArray, List.set_cons_zero, List.set_cons_succ]
                    refine wpAnyH_takeL (i := 24) (v := ?_) rfl (by kernel_rfl) (by kernel_rfl) (by kernel_rfl) (fun _ _ _ h => h) (Or.inl ⟨by rfl, ?_⟩) (by first | exact hHeld | assumption | trivial) ?_
                    rotate_left
                    · intro wz hSz; (try dsimp only at hSz); go_simp; (try with_reducible rfl)
                    try simp only [Act.put, List.setIfInBounds_toArray, List.set_cons_zero, List.set_cons_succ]
                    refine wpAnyH_takeL (i := 25) (v := ?_) rfl (by kernel_rfl) (by kernel_rfl) (by kernel_rfl) (fun _ _ _ h => h) (Or.inl ⟨by rfl, ?_⟩) (by first | exact hHeld | assumption | trivial) ?_
                    rotate_left
                    · intro wz hSz; (try dsimp only at hSz); go_simp; (try with_reducible rfl)
                    try simp only [Act.put, List.setIfInBounds_toArray, List.set_cons_zero, List.set_cons_succ]
                    refine wpAnyH_takeL (i := 26) (v := ?_) rfl (by kernel_rfl) (by kernel_rfl) (by kernel_rfl) (fun _ _ _ h => h) (Or.inl ⟨by rfl, ?_⟩) (by first | exact hHeld | assumption | trivial) ?_
                    rotate_left
                    · intro wz hSz; (try dsimp only at hSz); go_simp; (try with_reducible rfl)
                    try simp only [Act.put, List.setIfInBounds_toArray, List.set_cons_zero, List.set_cons_succ]
                    refine wpAnyH_takeL (i := 27) (v := ?_) rfl (by kernel_rfl) (by kernel_rfl) (by kernel_rfl) (fun _ _ _ h => h) (Or.inl ⟨by rfl, ?_⟩) (by first | exact hHeld | assumption | trivial) ?_
                    rotate_left
                    · intro wz hSz; (try dsimp only at hSz); go_simp; (try with_reducible rfl)
                    try simp only [Act.put, List.setIfInBounds_toArray, List.set_cons_zero, List.set_cons_succ]
                    refine wpAnyH_takeL (i := 28) (v := ?_) rfl (by kernel_rfl) (by kernel_rfl) (by kernel_rfl) (fun _ _ _ h => h) (Or.inl ⟨by rfl, ?_⟩) (by first | exact hHeld | assumption | trivial) ?_
                    rotate_left
                    · intro wz hSz; (try dsimp only at hSz); go_simp; (try with_reducible rfl)
                    try simp only [Act.put, List.setIfInBounds_toArray, List.set_cons_zero, List.set_cons_succ]
                    refine wpAnyH_takeL (i := 29) (v := ?_) rfl (by kernel_rfl) (by kernel_rfl) (by kernel_rfl) (fun _ _ _ h => h) (Or.inl ⟨by rfl, ?_⟩) (by first | exact hHeld | assumption | trivial) ?_
                    rotate_left
                    · intro wz hSz; (try dsimp only at hSz); go_simp; (try with_reducible rfl)
                    try simp only [Act.put, List.setIfInBounds_toArray, List.set_cons_zero, List.set_cons_succ]
                    refine wpAnyH_takeL (i := 30) (v := ?_) rfl (by kernel_rfl) (by kernel_rfl) (by kernel_rfl) (fun _ _ _ h => h) (Or.inl ⟨by rfl, ?_⟩) (by first | exact hHeld | assumption | trivial) ?_
                    rotate_left
                    · intro wz hSz; (try dsimp only at hSz); go_simp; (try with_reducible rfl)
                    try simp only [Act.put, List.setIfInBounds_toArray, List.set_cons_zero, List.set_cons_succ]
                    refine wpAnyH_takeL (i := 31) (v := ?_) rfl (by kernel_rfl) (by kernel_rfl) (by kernel_rfl) (fun _ _ _ h => h) (Or.inl ⟨by rfl, ?_⟩) (by first | exact hHeld | assumption | trivial) ?_
                    rotate_left
                    · intro wz hSz; (try dsimp only at hSz); go_simp; (try with_reducible rfl)
                    try simp only [Act.put, List.setIfInBounds_toArray, List.set_cons_zero, List.set_cons_succ]
                    refine wpAnyH_takeL (i := 32) (v := ?_) rfl (by kernel_rfl) (by kernel_rfl) (by kernel_rfl) (fun _ _ _ h => h) (Or.inl ⟨by rfl, ?_⟩) (by first | exact hHeld | assumption | trivial) ?_
                    rotate_left
                    · intro wz hSz; (try dsimp only at hSz); go_simp; (try with_reducible rfl)
                    try simp only [Act.put, List.setIfInBounds_toArray, List.set_cons_zero, List.set_cons_succ]
                    refine wpAnyH_takeL (i := 34) (v := ?_) rfl (by kernel_rfl) (by kernel_rfl) (by kernel_rfl) (fun _ _ _ h => h) (Or.inl ⟨by rfl, ?_⟩) (by first | exact hHeld | assumption | trivial) ?_
                    rotate_left
                    · intro wz hSz; (try dsimp only at hSz); go_simp; (try with_reducible rfl)
                    try simp only [Act.put, List.setIfInBounds_toArray, List.set_cons_zero, List.set_cons_succ]
                    refine wpAnyH_takeL (i := 36) (v := ?_) rfl (by kernel_rfl) (by kernel_rfl) (by kernel_rfl) (fun _ _ _ h => h) (Or.inl ⟨by rfl, ?_⟩) (by first | exact hHeld | assumption | trivial) ?_
                    rotate_left
                    · intro wz hSz; (try dsimp only at hSz); go_simp; (try with_reducible rfl)
                    try simp only [Act.put, List.setIfInBounds_toArray, List.set_cons_zero, List.set_cons_succ]
                    refine wpAnyH_takeL (i := 37) (v := ?_) rfl (by kernel_rfl) (by kernel_rfl) (by kernel_rfl) (fun _ _ _ h => h) (Or.inl ⟨by rfl, ?_⟩) (by first | exact hHeld | assumption | trivial) ?_
                    rotate_left
                    · intro wz hSz; (try dsimp only at hSz); go_simp; (try with_reducible rfl)
                    try simp only [Act.put, List.setIfInBounds_toArray, List.set_cons_zero, List.set_cons_succ]
                    refine wpAnyH_takeL (i := 38) (v := ?_) rfl (by kernel_rfl) (by kernel_rfl) (by kernel_rfl) (fun _ _ _ h => h) (Or.inl ⟨by rfl, ?_⟩) (by first | exact hHeld | assumption | trivial) ?_
                    rotate_left
                    · intro wz hSz; (try dsimp only at hSz); go_simp; (try with_reducible rfl)
                    try simp only [Act.put, List.setIfInBounds_toArray, List.set_cons_zero, List.set_cons_succ]
                    refine wpAnyH_takeL (i := 39) (v := ?_) rfl (by kernel_rfl) (by kernel_rfl) (by kernel_rfl) (fun _ _ _ h => h) (Or.inl ⟨by rfl, ?_⟩) (by first | exact hHeld | assumption | trivial) ?_
                    rotate_left
                    · intro wz hSz; (try dsimp only at hSz); go_simp; (try with_reducible rfl)
                    try simp only [Act.put, List.setIfInBounds_toArray, List.set_cons_zero, List.set_cons_succ]
                    refine wpAnyH_takeL (i := 40) (v := ?_) rfl (by kernel_rfl) (by kernel_rfl) (by kernel_rfl) (fun _ _ _ h => h) (Or.inl ⟨by rfl, ?_⟩) (by first | exact hHeld | assumption | trivial) ?_
                    rotate_left
                    · intro wz hSz; (try dsimp only at hSz); go_simp; (try with_reducible rfl)
                    try simp only [Act.put, List.setIfInBounds_toArray, List.set_cons_zero, List.set_cons_succ]
                    refine wpAnyH_takeL (i := 41) (v := ?_) rfl (by kernel_rfl) (by kernel_rfl) (by kernel_rfl) (fun _ _ _ h => h) (Or.inl ⟨by rfl, ?_⟩) (by first | exact hHeld | assumption | trivial) ?_
                    rotate_left
                    · intro wz hSz; (try dsimp only at hSz); go_simp; (try with_reducible rfl)
                    try simp only [Act.put, List.setIfInBounds_toArray, List.set_cons_zero, List.set_cons_succ]
                    clear es es2 es3 r10 r11
                    have HBx := Lib.hid ((Below.refl wr.heap.size wr).drew)
                    refine wpAnyH_ready (rs := [33, 42]) (by kernel_rfl) (by simp) ?_
                    refine AllReadyH.consL rfl (fun K hK => ?_) (AllReadyH.consL rfl (fun K hK => ?_) AllReadyH.nil)
                    ·
                      go_simp
                      refine (own13_any X (j - s) (c' - s) (q.map upI) _ (Nat.le_trans HW1.out HBx.out.size) (HRX.out.below (HBx.out.mono HW1.out)) (by omega)).mono ?_
                      rintro e2 wx ⟨Ao, co, rfl, ho, hco, hb⟩
                      have HOo := Lib.hid (Reads.of_own ho)
                      replace HBx := Lib.hid (HBx.out.trans (hb.mono HBx.out.size))
                      clear ho hb
                      refine hK.out _ _ (show _ ∧ _ from ⟨((HBx.out).cell (p := ad5.add i2) (by rw [block_add]; exact Nat.lt_of_lt_of_le HAB.out HW1.out)).trans HC5.out, ((HBx.out).cell (p := adL.add j) (by rw [block_add]; exact Nat.lt_of_lt_of_le habL HW1.out)).trans hcL⟩) (fun hHeld => ?_)
                      clear hK K
                      try simp only [Act.put, List.setIfInBounds_toArray, List.set_cons_zero, List.set_cons_succ]
                      refine wpAnyH_ready (rs := [35, 42]) (by kernel_rfl) (by simp) ?_
                      refine AllReadyH.consL rfl (fun K hK => ?_) (AllReadyH.consL rfl (fun K hK => ?_) AllReadyH.nil)
                      ·
                        go_simp
                        refine (cut_any Ao (j - s) co (q.map upI) (m : Int) _ (Nat.le_refl _) HOo.out (by omega) HII.out (by omega) (by omega)).mono ?_
                        rintro e2 wx ⟨A1, m1, c1, rfl, ho, hb⟩
                        rw [HONE.out] at ho
                        obtain rfl : m1 = 1 := (nread_len (Reads.of_own ho)).symm
                        have HCt := Lib.hid (show Reads wx wx.heap.size 1 A1 1 (icells [((j - s : Nat) : Int)]) from Reads.of_own ho)
                        replace HBx := Lib.hid (HBx.out.trans (hb.mono HBx.out.size))
                        clear ho hb HOo
                        refine hK.out _ _ (show _ ∧ _ from ⟨((HBx.out).cell (p := ad5.add i2) (by rw [block_add]; exact Nat.lt_of_lt_of_le HAB.out HW1.out)).trans HC5.out, ((HBx.out).cell (p := adL.add j) (by rw [block_add]; exact Nat.lt_of_lt_of_le habL HW1.out)).trans hcL⟩) (fun hHeld => ?_)
                        clear hK K
                        try simp only [Act.put, List.setIfInBounds_toArray, List.set_cons_zero, List.set_cons_succ]
                        refine wpAnyH_ready (rs := [42]) (by kernel_rfl) (by simp) ?_
                        refine AllReadyH.consL rfl (fun K hK => ?_) AllReadyH.nil
                        go_simp
                        have HAr := Lib.hid (show Reads (wx.alloc (.cells #[.int .i64 ((j - s : Nat) : Int)] 3)) (wx.alloc (.cells #[.int .i64 ((j - s : Nat) : Int)] 3)).heap.size 1 (some ⟨wx.heap.size, 0, none⟩) 1 (icells [((j - s : Nat) : Int)]) from (one_read wx 3 _).more (B' := (wx.alloc (.cells #[.int .i64 ((j - s : Nat) : Int)] 3)).heap.size) (by simp))
                        obtain ⟨ab, hab⟩ : ∃ y, y = wx.heap.size := ⟨_, rfl⟩
                        replace HBx := Lib.hid (show Below wr.heap.size wr (wx.alloc (.cells #[.int .i64 ((j - s : Nat) : Int)] 3)) from HBx.out.alloc HBx.out.size (.cells #[.int .i64 ((j - s : Nat) : Int)] 3))
                        replace HCt := Lib.hid ((HCt.out.alloc (Nat.le_refl _) (.cells #[.int .i64 ((j - s : Nat) : Int)] 3)).more (B' := (wx.alloc (.cells #[.int .i64 ((j - s : Nat) : Int)] 3)).heap.size) (by simp))
                        obtain ⟨wx, hwx⟩ : ∃ y, y = wx.alloc (.cells #[.int .i64 ((j - s : Nat) : Int)] 3) := ⟨_, rfl⟩
                        rw [← hwx] at HAr HBx HCt ⊢
                        rw [← hab] at HAr ⊢
                        clear hwx hab
                        refine hK.out _ _ (show _ ∧ _ from ⟨((HBx.out).cell (p := ad5.add i2) (by rw [block_add]; exact Nat.lt_of_lt_of_le HAB.out HW1.out)).trans HC5.out, ((HBx.out).cell (p := adL.add j) (by rw [block_add]; exact Nat.lt_of_lt_of_le habL HW1.out)).trans hcL⟩) (fun hHeld => ?_)
                        clear hK K
                        try simp only [Act.put, List.setIfInBounds_toArray, List.set_cons_zero, List.set_cons_succ]
                        refine wpAnyH_ready (rs := [43]) (by kernel_rfl) (by simp) ?_
                        refine AllReadyH.consL rfl (fun K hK => ?_) AllReadyH.nil
                        go_simp
                        refine (sameI_yes A1 1 c1 (some ⟨ab, 0, none⟩) 1 [((j - s : Nat) : Int)] _ HCt.out HAr.out (by omega)).mono ?_
                        rintro e9 wz ⟨rfl, qz, rfl⟩
                        replace HBx := Lib.hid (below_drewN HBx.out qz)
                        refine hK.out _ _ (show _ ∧ _ from ⟨((HBx.out).cell (p := ad5.add i2) (by rw [block_add]; exact Nat.lt_of_lt_of_le HAB.out HW1.out)).trans HC5.out, ((HBx.out).cell (p := adL.add j) (by rw [block_add]; exact Nat.lt_of_lt_of_le habL HW1.out)).trans hcL⟩) (fun hHeld => ?_)
                        clear hK K
                        try simp only [Act.put, List.setIfInBounds_toArray, List.set_cons_zero, List.set_cons_succ]
                        refine wpAnyH_takeL (i := 44) (v := ?_) rfl (by kernel_rfl) (by kernel_rfl) (by kernel_rfl) (fun _ _ _ h => h) (Or.inl ⟨by rfl, ?_⟩) (by first | exact hHeld | assumption | trivial) ?_
                        rotate_left
                        · intro wz hSz; (try dsimp only at hSz); go_simp; (try with_reducible rfl)
                        try simp only [Act.put, List.setIfInBounds_toArray, List.set_cons_zero, List.set_cons_succ]
                        refine wpAnyH_takeL (i := 45) (v := ?_) rfl (by kernel_rfl) (by kernel_rfl) (by kernel_rfl) (fun _ _ _ h => h) (Or.inl ⟨by rfl, ?_⟩) (by first | exact hHeld | assumption | trivial) ?_
                        rotate_left
                        · intro wz hSz; (try dsimp only at hSz); go_simp; (try with_reducible rfl)
                        try simp only [Act.put, List.setIfInBounds_toArray, List.set_cons_zero, List.set_cons_succ]
                        refine wpAnyH_done (by kernel_rfl) ?_ _
                        have hc5f := (HBx.out.cell (p := ad5.add i2) (by rw [block_add]; exact Nat.lt_of_lt_of_le HAB.out HW1.out)).trans HC5.out
                        have HBf := Lib.hid (HBr.out.trans (HBx.out.mono HW1.out))
                        clear HBx HCt HAr HRX HC5 HLw hXr
                        go_wp2_with fail
                        go_roundw
                        case rel =>
                          first
                            | exact ⟨i2 + 1, by omega, by go_num, by rw [HNx.out], HBf⟩
                            | ((repeat apply Exists.intro); exact ⟨⟨i2 + 1, by omega, by go_num, by rw [HNx.out], HBf⟩, rfl⟩)
                        case measure => simp [intOf]; omega
                      ·
                        go_simp
                        have HAr := Lib.hid (show Reads (wx.alloc (.cells #[.int .i64 ((j - s : Nat) : Int)] 3)) (wx.alloc (.cells #[.int .i64 ((j - s : Nat) : Int)] 3)).heap.size 1 (some ⟨wx.heap.size, 0, none⟩) 1 (icells [((j - s : Nat) : Int)]) from (one_read wx 3 _).more (B' := (wx.alloc (.cells #[.int .i64 ((j - s : Nat) : Int)] 3)).heap.size) (by simp))
                        obtain ⟨ab, hab⟩ : ∃ y, y = wx.heap.size := ⟨_, rfl⟩
                        replace HBx := Lib.hid (show Below wr.heap.size wr (wx.alloc (.cells #[.int .i64 ((j - s : Nat) : Int)] 3)) from HBx.out.alloc HBx.out.size (.cells #[.int .i64 ((j - s : Nat) : Int)] 3))
                        replace HOo := Lib.hid ((HOo.out.alloc (Nat.le_refl _) (.cells #[.int .i64 ((j - s : Nat) : Int)] 3)).more (B' := (wx.alloc (.cells #[.int .i64 ((j - s : Nat) : Int)] 3)).heap.size) (by simp))
                        obtain ⟨wx, hwx⟩ : ∃ y, y = wx.alloc (.cells #[.int .i64 ((j - s : Nat) : Int)] 3) := ⟨_, rfl⟩
                        rw [← hwx] at HAr HBx HOo ⊢
                        rw [← hab] at HAr ⊢
                        clear hwx hab
                        refine hK.out _ _ (show _ ∧ _ from ⟨((HBx.out).cell (p := ad5.add i2) (by rw [block_add]; exact Nat.lt_of_lt_of_le HAB.out HW1.out)).trans HC5.out, ((HBx.out).cell (p := adL.add j) (by rw [block_add]; exact Nat.lt_of_lt_of_le habL HW1.out)).trans hcL⟩) (fun hHeld => ?_)
                        clear hK K
                        try simp only [Act.put, List.setIfInBounds_toArray, List.set_cons_zero, List.set_cons_succ]
                        refine wpAnyH_ready (rs := [35]) (by kernel_rfl) (by simp) ?_
                        refine AllReadyH.consL rfl (fun K hK => ?_) AllReadyH.nil
                        go_simp
                        refine (cut_any Ao (j - s) co (q.map upI) (m : Int) _ (Nat.le_refl _) HOo.out (by omega) HII.out (by omega) (by omega)).mono ?_
                        rintro e2 wx ⟨A1, m1, c1, rfl, ho, hb⟩
                        rw [HONE.out] at ho
                        obtain rfl : m1 = 1 := (nread_len (Reads.of_own ho)).symm
                        have HCt := Lib.hid (show Reads wx wx.heap.size 1 A1 1 (icells [((j - s : Nat) : Int)]) from Reads.of_own ho)
                        replace HBx := Lib.hid (HBx.out.trans (hb.mono HBx.out.size))
                        replace HAr := Lib.hid ((HAr.out.below hb).more hb.size)
                        clear ho hb HOo
                        refine hK.out _ _ (show _ ∧ _ from ⟨((HBx.out).cell (p := ad5.add i2) (by rw [block_add]; exact Nat.lt_of_lt_of_le HAB.out HW1.out)).trans HC5.out, ((HBx.out).cell (p := adL.add j) (by rw [block_add]; exact Nat.lt_of_lt_of_le habL HW1.out)).trans hcL⟩) (fun hHeld => ?_)
                        clear hK K
                        try simp only [Act.put, List.setIfInBounds_toArray, List.set_cons_zero, List.set_cons_succ]
                        refine wpAnyH_ready (rs := [43]) (by kernel_rfl) (by simp) ?_
                        refine AllReadyH.consL rfl (fun K hK => ?_) AllReadyH.nil
                        go_simp
                        refine (sameI_yes A1 1 c1 (some ⟨ab, 0, none⟩) 1 [((j - s : Nat) : Int)] _ HCt.out HAr.out (by omega)).mono ?_
                        rintro e9 wz ⟨rfl, qz, rfl⟩
                        replace HBx := Lib.hid (below_drewN HBx.out qz)
                        refine hK.out _ _ (show _ ∧ _ from ⟨((HBx.out).cell (p := ad5.add i2) (by rw [block_add]; exact Nat.lt_of_lt_of_le HAB.out HW1.out)).trans HC5.out, ((HBx.out).cell (p := adL.add j) (by rw [block_add]; exact Nat.lt_of_lt_of_le habL HW1.out)).trans hcL⟩) (fun hHeld => ?_)
                        clear hK K
                        try simp only [Act.put, List.setIfInBounds_toArray, List.set_cons_zero, List.set_cons_succ]
                        refine wpAnyH_takeL (i := 44) (v := ?_) rfl (by kernel_rfl) (by kernel_rfl) (by kernel_rfl) (fun _ _ _ h => h) (Or.inl ⟨by rfl, ?_⟩) (by first | exact hHeld | assumption | trivial) ?_
                        rotate_left
                        · intro wz hSz; (try dsimp only at hSz); go_simp; (try with_reducible rfl)
                        try simp only [Act.put, List.setIfInBounds_toArray, List.set_cons_zero, List.set_cons_succ]
                        refine wpAnyH_takeL (i := 45) (v := ?_) rfl (by kernel_rfl) (by kernel_rfl) (by kernel_rfl) (fun _ _ _ h => h) (Or.inl ⟨by rfl, ?_⟩) (by first | exact hHeld | assumption | trivial) ?_
                        rotate_left
                        · intro wz hSz; (try dsimp only at hSz); go_simp; (try with_reducible rfl)
                        try simp only [Act.put, List.setIfInBounds_toArray, List.set_cons_zero, List.set_cons_succ]
                        refine wpAnyH_done (by kernel_rfl) ?_ _
                        have hc5f := (HBx.out.cell (p := ad5.add i2) (by rw [block_add]; exact Nat.lt_of_lt_of_le HAB.out HW1.out)).trans HC5.out
                        have HBf := Lib.hid (HBr.out.trans (HBx.out.mono HW1.out))
                        clear HBx HCt HAr HRX HC5 HLw hXr
                        go_wp2_with fail
                        go_roundw
                        case rel =>
                          first
                            | exact ⟨i2 + 1, by omega, by go_num, by rw [HNx.out], HBf⟩
                            | ((repeat apply Exists.intro); exact ⟨⟨i2 + 1, by omega, by go_num, by rw [HNx.out], HBf⟩, rfl⟩)
                        case measure => simp [intOf]; omega
                    ·
                      go_simp
                      have HAr := Lib.hid (show Reads ((wr.alloc (.cells #[.int .i64 ((j - s : Nat) : Int)] 3)).drew) ((wr.alloc (.cells #[.int .i64 ((j - s : Nat) : Int)] 3)).drew).heap.size 1 (some ⟨wr.heap.size, 0, none⟩) 1 (icells [((j - s : Nat) : Int)]) from (one_read wr 3 _).more (B' := (wr.alloc (.cells #[.int .i64 ((j - s : Nat) : Int)] 3)).heap.size) (by simp))
                      obtain ⟨ab, hab⟩ : ∃ y, y = wr.heap.size := ⟨_, rfl⟩
                      replace HBx := Lib.hid (show Below wr.heap.size wr ((wr.alloc (.cells #[.int .i64 ((j - s : Nat) : Int)] 3)).drew) from ((Below.refl wr.heap.size wr).alloc (Nat.le_refl _) (.cells #[.int .i64 ((j - s : Nat) : Int)] 3)).drew)
                      obtain ⟨wx, hwx⟩ : ∃ y, y = (wr.alloc (.cells #[.int .i64 ((j - s : Nat) : Int)] 3)).drew := ⟨_, rfl⟩
                      rw [← hwx] at HAr HBx ⊢
                      rw [← hab] at HAr ⊢
                      clear hwx hab
                      refine hK.out _ _ (show _ ∧ _ from ⟨((HBx.out).cell (p := ad5.add i2) (by rw [block_add]; exact Nat.lt_of_lt_of_le HAB.out HW1.out)).trans HC5.out, ((HBx.out).cell (p := adL.add j) (by rw [block_add]; exact Nat.lt_of_lt_of_le habL HW1.out)).trans hcL⟩) (fun hHeld => ?_)
                      clear hK K
                      try simp only [Act.put, List.setIfInBounds_toArray, List.set_cons_zero, List.set_cons_succ]
                      refine wpAnyH_ready (rs := [33]) (by kernel_rfl) (by simp) ?_
                      refine AllReadyH.consL rfl (fun K hK => ?_) AllReadyH.nil
                      go_simp
                      refine (own13_any X (j - s) (c' - s) (q.map upI) _ (Nat.le_trans HW1.out HBx.out.size) (HRX.out.below (HBx.out.mono HW1.out)) (by omega)).mono ?_
                      rintro e2 wx ⟨Ao, co, rfl, ho, hco, hb⟩
                      have HOo := Lib.hid (Reads.of_own ho)
                      replace HBx := Lib.hid (HBx.out.trans (hb.mono HBx.out.size))
                      replace HAr := Lib.hid ((HAr.out.below hb).more hb.size)
                      clear ho hb
                      refine hK.out _ _ (show _ ∧ _ from ⟨((HBx.out).cell (p := ad5.add i2) (by rw [block_add]; exact Nat.lt_of_lt_of_le HAB.out HW1.out)).trans HC5.out, ((HBx.out).cell (p := adL.add j) (by rw [block_add]; exact Nat.lt_of_lt_of_le habL HW1.out)).trans hcL⟩) (fun hHeld => ?_)
                      clear hK K
                      try simp only [Act.put, List.setIfInBounds_toArray, List.set_cons_zero, List.set_cons_succ]
                      refine wpAnyH_ready (rs := [35]) (by kernel_rfl) (by simp) ?_
                      refine AllReadyH.consL rfl (fun K hK => ?_) AllReadyH.nil
                      go_simp
                      refine (cut_any Ao (j - s) co (q.map upI) (m : Int) _ (Nat.le_refl _) HOo.out (by omega) HII.out (by omega) (by omega)).mono ?_
                      rintro e2 wx ⟨A1, m1, c1, rfl, ho, hb⟩
                      rw [HONE.out] at ho
                      obtain rfl : m1 = 1 := (nread_len (Reads.of_own ho)).symm
                      have HCt := Lib.hid (show Reads wx wx.heap.size 1 A1 1 (icells [((j - s : Nat) : Int)]) from Reads.of_own ho)
                      replace HBx := Lib.hid (HBx.out.trans (hb.mono HBx.out.size))
                      replace HAr := Lib.hid ((HAr.out.below hb).more hb.size)
                      clear ho hb HOo
                      refine hK.out _ _ (show _ ∧ _ from ⟨((HBx.out).cell (p := ad5.add i2) (by rw [block_add]; exact Nat.lt_of_lt_of_le HAB.out HW1.out)).trans HC5.out, ((HBx.out).cell (p := adL.add j) (by rw [block_add]; exact Nat.lt_of_lt_of_le habL HW1.out)).trans hcL⟩) (fun hHeld => ?_)
                      clear hK K
                      try simp only [Act.put, List.setIfInBounds_toArray, List.set_cons_zero, List.set_cons_succ]
                      refine wpAnyH_ready (rs := [43]) (by kernel_rfl) (by simp) ?_
                      refine AllReadyH.consL rfl (fun K hK => ?_) AllReadyH.nil
                      go_simp
                      refine (sameI_yes A1 1 c1 (some ⟨ab, 0, none⟩) 1 [((j - s : Nat) : Int)] _ HCt.out HAr.out (by omega)).mono ?_
                      rintro e9 wz ⟨rfl, qz, rfl⟩
                      replace HBx := Lib.hid (below_drewN HBx.out qz)
                      refine hK.out _ _ (show _ ∧ _ from ⟨((HBx.out).cell (p := ad5.add i2) (by rw [block_add]; exact Nat.lt_of_lt_of_le HAB.out HW1.out)).trans HC5.out, ((HBx.out).cell (p := adL.add j) (by rw [block_add]; exact Nat.lt_of_lt_of_le habL HW1.out)).trans hcL⟩) (fun hHeld => ?_)
                      clear hK K
                      try simp only [Act.put, List.setIfInBounds_toArray, List.set_cons_zero, List.set_cons_succ]
                      refine wpAnyH_takeL (i := 44) (v := ?_) rfl (by kernel_rfl) (by kernel_rfl) (by kernel_rfl) (fun _ _ _ h => h) (Or.inl ⟨by rfl, ?_⟩) (by first | exact hHeld | assumption | trivial) ?_
                      rotate_left
                      · intro wz hSz; (try dsimp only at hSz); go_simp; (try with_reducible rfl)
                      try simp only [Act.put, List.setIfInBounds_toArray, List.set_cons_zero, List.set_cons_succ]
                      refine wpAnyH_takeL (i := 45) (v := ?_) rfl (by kernel_rfl) (by kernel_rfl) (by kernel_rfl) (fun _ _ _ h => h) (Or.inl ⟨by rfl, ?_⟩) (by first | exact hHeld | assumption | trivial) ?_
                      rotate_left
                      · intro wz hSz; (try dsimp only at hSz); go_simp; (try with_reducible rfl)
                      try simp only [Act.put, List.setIfInBounds_toArray, List.set_cons_zero, List.set_cons_succ]
                      refine wpAnyH_done (by kernel_rfl) ?_ _
                      have hc5f := (HBx.out.cell (p := ad5.add i2) (by rw [block_add]; exact Nat.lt_of_lt_of_le HAB.out HW1.out)).trans HC5.out
                      have HBf := Lib.hid (HBr.out.trans (HBx.out.mono HW1.out))
                      clear HBx HCt HAr HRX HC5 HLw hXr
                      go_wp2_with fail
                      go_roundw
                      case rel =>
                        first
                          | exact ⟨i2 + 1, by omega, by go_num, by rw [HNx.out], HBf⟩
                          | ((repeat apply Exists.intro); exact ⟨⟨i2 + 1, by omega, by go_num, by rw [HNx.out], HBf⟩, rfl⟩)
                      case measure => simp [intOf]; omega
                  · obtain rfl : j = k := by have := G2.out; omega
                    have r3 : decide ((j : Int) < (j : Int)) = false := by simp
                    have r3' : decide (j < j) = false := by simp
                    have es2 := i64_nat (j - s) hks9
                    have es3 := wrap64_nat (j - s) hks9
                    go_upto_region 31 with fail
                    refine wp_region_held_drew (S := (fun w' => w'.cell? (ad5.add i2) = some (.int .i64 (j : Int)) ∧ True)) (by kernel_rfl) (show _ ∧ _ from ⟨HC5.out, trivial⟩) (fun _ => ?_)
                    refine wpAnyH_takeL (i := 0) (v := ?_) rfl (by kernel_rfl) (by kernel_rfl) (by kernel_rfl) (fun _ _ _ h => h) (Or.inl ⟨by rfl, ?_⟩) (by first | exact hHeld | assumption | trivial) ?_
                    rotate_left
                    · intro wz hSz; (try dsimp only at hSz); go_simp; (try with_reducible rfl)
                    try simp only [Act.put, List.setIfInBounds_toArray, List.set_cons_zero, List.set_cons_succ]
                    refine wpAnyH_takeL (i := 1) (v := ?_) rfl (by kernel_rfl) (by kernel_rfl) (by kernel_rfl) (fun _ _ _ h => h) (Or.inl ⟨by rfl, ?_⟩) (by first | exact hHeld | assumption | trivial) ?_
                    rotate_left
                    · intro wz hSz; (try dsimp only at hSz); go_simp; (try with_reducible rfl)
                    try simp only [Act.put, List.setIfInBounds_toArray, List.set_cons_zero, List.set_cons_succ]
                    refine wpAnyH_takeL (i := 2) (v := ?_) rfl (by kernel_rfl) (by kernel_rfl) (by kernel_rfl) (fun _ _ _ h => h) (Or.inl ⟨by rfl, ?_⟩) (by first | exact hHeld | assumption | trivial) ?_
                    rotate_left
                    · intro wz hSz; (try dsimp only at hSz); go_simp; (try with_reducible rfl)
                    try simp only [Act.put, List.setIfInBounds_toArray, List.set_cons_zero, List.set_cons_succ]
                    refine wpAnyH_takeL (i := 3) (v := ?_) rfl (by kernel_rfl) (by kernel_rfl) (by kernel_rfl) (fun _ _ _ h => h) (Or.inl ⟨by rfl, ?_⟩) (by first | exact hHeld | assumption | trivial) ?_
                    rotate_left
                    · intro wz hSz; (try dsimp only at hSz); go_simp; (try with_reducible rfl)
                    try simp only [Act.put, List.setIfInBounds_toArray, List.set_cons_zero, List.set_cons_succ]
                    refine wpAnyH_takeL (i := 4) (v := ?_) rfl (by kernel_rfl) (by kernel_rfl) (by kernel_rfl) (fun _ _ _ h => h) (Or.inl ⟨by rfl, ?_⟩) (by first | exact hHeld | assumption | trivial) ?_
                    rotate_left
                    · intro wz hSz; (try dsimp only at hSz); go_simp; (try with_reducible rfl)
                    try simp only [Act.put, List.setIfInBounds_toArray, List.set_cons_zero, List.set_cons_succ]
                    refine wpAnyH_takeL (i := 5) (v := ?_) rfl (by kernel_rfl) (by kernel_rfl) (by kernel_rfl) (fun _ _ _ h => h) (Or.inl ⟨by rfl, ?_⟩) (by first | exact hHeld | assumption | trivial) ?_
                    rotate_left
                    · intro wz hSz; (try dsimp only at hSz); go_simp; (try with_reducible rfl)
                    try simp only [Act.put, List.setIfInBounds_toArray, List.set_cons_zero, List.set_cons_succ]
                    refine wpAnyH_takeL (i := 6) (v := ?_) rfl (by kernel_rfl) (by kernel_rfl) (by kernel_rfl) (fun _ _ _ h => h) (Or.inl ⟨by rfl, ?_⟩) (by first | exact hHeld | assumption | trivial) ?_
                    rotate_left
                    · intro wz hSz; (try dsimp only at hSz); go_simp; (try with_reducible rfl)
                    try simp only [Act.put, List.setIfInBounds_toArray, List.set_cons_zero, List.set_cons_succ]
                    refine wpAnyH_takeL (i := 7) (v := ?_) rfl (by kernel_rfl) (by kernel_rfl) (by kernel_rfl) (fun _ _ _ h => h) (Or.inl ⟨by rfl, ?_⟩) (by first | exact hHeld | assumption | trivial) ?_
                    rotate_left
                    · intro wz hSz; (try dsimp only at hSz); go_simp; (try with_reducible rfl)
                    try simp only [Act.put, List.setIfInBounds_toArray, List.set_cons_zero, List.set_cons_succ]
                    refine wpAnyH_takeL (i := 8) (v := ?_) rfl (by kernel_rfl) (by kernel_rfl) (by kernel_rfl) (fun _ _ _ h => h) (Or.inl ⟨by rfl, ?_⟩) (by first | exact hHeld | assumption | trivial) ?_
                    rotate_left
                    · intro wz hSz; (try dsimp only at hSz); go_simp; (try with_reducible rfl)
                    try simp only [Act.put, List.setIfInBounds_toArray, List.set_cons_zero, List.set_cons_succ]
                    refine wpAnyH_takeL (i := 9) (v := ?_) rfl (by kernel_rfl) (by kernel_rfl) (by kernel_rfl) (fun _ _ _ h => h) (Or.inl ⟨by rfl, ?_⟩) (by first | exact hHeld | assumption | trivial) ?_
                    rotate_left
                    · intro wz hSz; (try dsimp only at hSz); go_simp; (try with_reducible rfl)
                    try simp only [Act.put, List.setIfInBounds_toArray, List.set_cons_zero, List.set_cons_succ]
                    refine wpAnyH_takeL (i := 10) (v := ?_) rfl (by kernel_rfl) (by kernel_rfl) (by kernel_rfl) (fun _ _ _ h => h) (Or.inl ⟨by rfl, ?_⟩) (by first | exact hHeld | assumption | trivial) ?_
                    rotate_left
                    · intro wz hSz; (try dsimp only at hSz); go_simp; (try with_reducible rfl)
                    try simp only [Act.put, List.setIfInBounds_toArray, List.set_cons_zero, List.set_cons_succ]
                    refine wpAnyH_takeL (i := 11) (v := ?_) rfl (by kernel_rfl) (by kernel_rfl) (by kernel_rfl) (fun _ _ _ h => h) (Or.inl ⟨by rfl, ?_⟩) (by first | exact hHeld | assumption | trivial) ?_
                    rotate_left
                    · intro wz hSz; (try dsimp only at hSz); go_simp; (try with_reducible rfl)
                    try simp only [Act.put, List.setIfInBounds_toArray, List.set_cons_zero, List.set_cons_succ]
                    refine wpAnyH_takeL (i := 12) (v := undef) rfl (by kernel_rfl) (by kernel_rfl) (by kernel_rfl) (fun _ _ _ h => h) (Or.inr ⟨by rfl, by rfl⟩) (by first | exact hHeld | assumption | trivial) ?_
                    try simp only [Act.put, List.setIfInBounds_toArray, List.set_cons_zero, List.set_cons_succ]
                    refine wpAnyH_takeL (i := 13) (v := undef) rfl (by kernel_rfl) (by kernel_rfl) (by kernel_rfl) (fun _ _ _ h => h) (Or.inr ⟨by rfl, by rfl⟩) (by first | exact hHeld | assumption | trivial) ?_
                    try simp only [Act.put, List.setIfInBounds_toArray, List.set_cons_zero, List.set_cons_succ]
                    refine wpAnyH_takeL (i := 14) (v := undef) rfl (by kernel_rfl) (by kernel_rfl) (by kernel_rfl) (fun _ _ _ h => h) (Or.inr ⟨by rfl, by rfl⟩) (by first | exact hHeld | assumption | trivial) ?_
                    try simp only [Act.put, List.setIfInBounds_toArray, List.set_cons_zero, List.set_cons_succ]
                    refine wpAnyH_takeL (i := 15) (v := undef) rfl (by kernel_rfl) (by kernel_rfl) (by kernel_rfl) (fun _ _ _ h => h) (Or.inr ⟨by rfl, by rfl⟩) (by first | exact hHeld | assumption | trivial) ?_
                    try simp only [Act.put, List.setIfInBounds_toArray, List.set_cons_zero, List.set_cons_succ]
                    refine wpAnyH_takeL (i := 16) (v := undef) rfl (by kernel_rfl) (by kernel_rfl) (by kernel_rfl) (fun _ _ _ h => h) (Or.inr ⟨by rfl, by rfl⟩) (by first | exact hHeld | assumption | trivial) ?_
                    try simp only [Act.put, List.setIfInBounds_toArray, List.set_cons_zero, List.set_cons_succ]
                    refine wpAnyH_takeL (i := 17) (v := undef) rfl (by kernel_rfl) (by kernel_rfl) (by kernel_rfl) (fun _ _ _ h => h) (Or.inr ⟨by rfl, by rfl⟩) (by first | exact hHeld | assumption | trivial) ?_
                    try simp only [Act.put, List.setIfInBounds_toArray, List.set_cons_zero, List.set_cons_succ]
                    refine wpAnyH_takeL (i := 18) (v := undef) rfl (by kernel_rfl) (by kernel_rfl) (by kernel_rfl) (fun _ _ _ h => h) (Or.inr ⟨by rfl, by rfl⟩) (by first | exact hHeld | assumption | trivial) ?_
                    try simp only [Act.put, List.setIfInBounds_toArray, List.set_cons_zero, List.set_cons_succ]
                    refine wpAnyH_takeL (i := 19) (v := undef) rfl (by kernel_rfl) (by kernel_rfl) (by kernel_rfl) (fun _ _ _ h => h) (Or.inr ⟨by rfl, by rfl⟩) (by first | exact hHeld | assumption | trivial) ?_
                    try simp only [Act.put, List.setIfInBounds_toArray, List.set_cons_zero, List.set_cons_succ]
                    refine wpAnyH_takeL (i := 20) (v := undef) rfl (by kernel_rfl) (by kernel_rfl) (by kernel_rfl) (fun _ _ _ h => h) (Or.inr ⟨by rfl, by rfl⟩) (by first | exact hHeld | assumption | trivial) ?_
                    try simp only [Act.put, List.setIfInBounds_toArray, List.set_cons_zero, List.set_cons_succ]
                    refine wpAnyH_takeL (i := 21) (v := undef) rfl (by kernel_rfl) (by kernel_rfl) (by kernel_rfl) (fun _ _ _ h => h) (Or.inr ⟨by rfl, by rfl⟩) (by first | exact hHeld | assumption | trivial) ?_
                    try simp only [Act.put, List.setIfInBounds_toArray, List.set_cons_zero, List.set_cons_succ]
                    refine wpAnyH_takeL (i := 22) (v := undef) rfl (by kernel_rfl) (by kernel_rfl) (by kernel_rfl) (fun _ _ _ h => h) (Or.inr ⟨by rfl, by rfl⟩) (by first | exact hHeld | assumption | trivial) ?_
                    try simp only [Act.put, List.setIfInBounds_toArray, List.set_cons_zero, List.set_cons_succ]
                    refine wpAnyH_takeL (i := 23) (v := ?_) rfl (by kernel_rfl) (by kernel_rfl) (by kernel_rfl) (fun _ _ _ h => h) (Or.inl ⟨by rfl, ?_⟩) (by first | exact hHeld | assumption | trivial) ?_
                    rotate_left
                    · intro wz hSz; (try dsimp only at hSz); go_simp; (try with_reducible rfl)
                    try simp only [Act.put, List.setIfInBounds_toArray, List.set_cons_zero, List.set_cons_succ]
                    refine wpAnyH_takeL (i := 24) (v := ?_) rfl (by kernel_rfl) (by kernel_rfl) (by kernel_rfl) (fun _ _ _ h => h) (Or.inl ⟨by rfl, ?_⟩) (by first | exact hHeld | assumption | trivial) ?_
                    rotate_left
                    · intro wz hSz; (try dsimp only at hSz); go_simp; (try with_reducible rfl)
                    try simp only [Act.put, List.setIfInBounds_toArray, List.set_cons_zero, List.set_cons_succ]
                    refine wpAnyH_takeL (i := 25) (v := ?_) rfl (by kernel_rfl) (by kernel_rfl) (by kernel_rfl) (fun _ _ _ h => h) (Or.inl ⟨by rfl, ?_⟩) (by first | exact hHeld | assumption | trivial) ?_
                    rotate_left
                    · intro wz hSz; (try dsimp only at hSz); go_simp; (try with_reducible rfl)
                    try simp only [Act.put, List.setIfInBounds_toArray, List.set_cons_zero, List.set_cons_succ]
                    refine wpAnyH_takeL (i := 26) (v := ?_) rfl (by kernel_rfl) (by kernel_rfl) (by kernel_rfl) (fun _ _ _ h => h) (Or.inl ⟨by rfl, ?_⟩) (by first | exact hHeld | assumption | trivial) ?_
                    rotate_left
                    · intro wz hSz; (try dsimp only at hSz); go_simp; (try with_reducible rfl)
                    try simp only [Act.put, List.setIfInBounds_toArray, List.set_cons_zero, List.set_cons_succ]
                    refine wpAnyH_takeL (i := 27) (v := ?_) rfl (by kernel_rfl) (by kernel_rfl) (by kernel_rfl) (fun _ _ _ h => h) (Or.inl ⟨by rfl, ?_⟩) (by first | exact hHeld | assumption | trivial) ?_
                    rotate_left
                    · intro wz hSz; (try dsimp only at hSz); go_simp; (try with_reducible rfl)
                    try simp only [Act.put, List.setIfInBounds_toArray, List.set_cons_zero, List.set_cons_succ]
                    refine wpAnyH_takeL (i := 28) (v := ?_) rfl (by kernel_rfl) (by kernel_rfl) (by kernel_rfl) (fun _ _ _ h => h) (Or.inl ⟨by rfl, ?_⟩) (by first | exact hHeld | assumption | trivial) ?_
                    rotate_left
                    · intro wz hSz; (try dsimp only at hSz); go_simp; (try with_reducible rfl)
                    try simp only [Act.put, List.setIfInBounds_toArray, List.set_cons_zero, List.set_cons_succ]
                    refine wpAnyH_takeL (i := 29) (v := ?_) rfl (by kernel_rfl) (by kernel_rfl) (by kernel_rfl) (fun _ _ _ h => h) (Or.inl ⟨by rfl, ?_⟩) (by first | exact hHeld | assumption | trivial) ?_
                    rotate_left
                    · intro wz hSz; (try dsimp only at hSz); go_simp; (try with_reducible rfl)
                    try simp only [Act.put, List.setIfInBounds_toArray, List.set_cons_zero, List.set_cons_succ]
                    refine wpAnyH_takeL (i := 30) (v := ?_) rfl (by kernel_rfl) (by kernel_rfl) (by kernel_rfl) (fun _ _ _ h => h) (Or.inl ⟨by rfl, ?_⟩) (by first | exact hHeld | assumption | trivial) ?_
                    rotate_left
                    · intro wz hSz; (try dsimp only at hSz); go_simp; (try with_reducible rfl)
                    try simp only [Act.put, List.setIfInBounds_toArray, List.set_cons_zero, List.set_cons_succ]
                    refine wpAnyH_takeL (i := 31) (v := ?_) rfl (by kernel_rfl) (by kernel_rfl) (by kernel_rfl) (fun _ _ _ h => h) (Or.inl ⟨by rfl, ?_⟩) (by first | exact hHeld | assumption | trivial) ?_
                    rotate_left
                    · intro wz hSz; (try dsimp only at hSz); go_simp; (try with_reducible rfl)
                    try simp only [Act.put, List.setIfInBounds_toArray, List.set_cons_zero, List.set_cons_succ]
                    refine wpAnyH_takeL (i := 32) (v := ?_) rfl (by kernel_rfl) (by kernel_rfl) (by kernel_rfl) (fun _ _ _ h => h) (Or.inl ⟨by rfl, ?_⟩) (by first | exact hHeld | assumption | trivial) ?_
                    rotate_left
                    · intro wz hSz; (try dsimp only at hSz); go_simp; (try with_reducible rfl)
                    try simp only [Act.put, List.setIfInBounds_toArray, List.set_cons_zero, List.set_cons_succ]
                    refine wpAnyH_takeL (i := 34) (v := ?_) rfl (by kernel_rfl) (by kernel_rfl) (by kernel_rfl) (fun _ _ _ h => h) (Or.inl ⟨by rfl, ?_⟩) (by first | exact hHeld | assumption | trivial) ?_
                    rotate_left
                    · intro wz hSz; (try dsimp only at hSz); go_simp; (try with_reducible rfl)
                    try simp only [Act.put, List.setIfInBounds_toArray, List.set_cons_zero, List.set_cons_succ]
                    refine wpAnyH_takeL (i := 36) (v := ?_) rfl (by kernel_rfl) (by kernel_rfl) (by kernel_rfl) (fun _ _ _ h => h) (Or.inl ⟨by rfl, ?_⟩) (by first | exact hHeld | assumption | trivial) ?_
                    rotate_left
                    · intro wz hSz; (try dsimp only at hSz); go_simp; (try with_reducible rfl)
                    try simp only [Act.put, List.setIfInBounds_toArray, List.set_cons_zero, List.set_cons_succ]
                    refine wpAnyH_takeL (i := 37) (v := ?_) rfl (by kernel_rfl) (by kernel_rfl) (by kernel_rfl) (fun _ _ _ h => h) (Or.inl ⟨by rfl, ?_⟩) (by first | exact hHeld | assumption | trivial) ?_
                    rotate_left
                    · intro wz hSz; (try dsimp only at hSz); go_simp; (try with_reducible rfl)
                    try simp only [Act.put, List.setIfInBounds_toArray, List.set_cons_zero, List.set_cons_succ]
                    refine wpAnyH_takeL (i := 38) (v := ?_) rfl (by kernel_rfl) (by kernel_rfl) (by kernel_rfl) (fun _ _ _ h => h) (Or.inl ⟨by rfl, ?_⟩) (by first | exact hHeld | assumption | trivial) ?_
                    rotate_left
                    · intro wz hSz; (try dsimp only at hSz); go_simp; (try with_reducible rfl)
                    try simp only [Act.put, List.setIfInBounds_toArray, List.set_cons_zero, List.set_cons_succ]
                    refine wpAnyH_takeL (i := 39) (v := ?_) rfl (by kernel_rfl) (by kernel_rfl) (by kernel_rfl) (fun _ _ _ h => h) (Or.inl ⟨by rfl, ?_⟩) (by first | exact hHeld | assumption | trivial) ?_
                    rotate_left
                    · intro wz hSz; (try dsimp only at hSz); go_simp; (try with_reducible rfl)
                    try simp only [Act.put, List.setIfInBounds_toArray, List.set_cons_zero, List.set_cons_succ]
                    refine wpAnyH_takeL (i := 40) (v := ?_) rfl (by kernel_rfl) (by kernel_rfl) (by kernel_rfl) (fun _ _ _ h => h) (Or.inl ⟨by rfl, ?_⟩) (by first | exact hHeld | assumption | trivial) ?_
                    rotate_left
                    · intro wz hSz; (try dsimp only at hSz); go_simp; (try with_reducible rfl)
                    try simp only [Act.put, List.setIfInBounds_toArray, List.set_cons_zero, List.set_cons_succ]
                    refine wpAnyH_takeL (i := 41) (v := ?_) rfl (by kernel_rfl) (by kernel_rfl) (by kernel_rfl) (fun _ _ _ h => h) (Or.inl ⟨by rfl, ?_⟩) (by first | exact hHeld | assumption | trivial) ?_
                    rotate_left
                    · intro wz hSz; (try dsimp only at hSz); go_simp; (try with_reducible rfl)
                    try simp only [Act.put, List.setIfInBounds_toArray, List.set_cons_zero, List.set_cons_succ]
                    clear es es2 es3
                    have HBx := Lib.hid ((Below.refl wr.heap.size wr).drew)
                    refine wpAnyH_ready (rs := [33, 42]) (by kernel_rfl) (by simp) ?_
                    refine AllReadyH.consL rfl (fun K hK => ?_) (AllReadyH.consL rfl (fun K hK => ?_) AllReadyH.nil)
                    ·
                      go_simp
                      refine (own13_any X (j - s) (c' - s) (q.map upI) _ (Nat.le_trans HW1.out HBx.out.size) (HRX.out.below (HBx.out.mono HW1.out)) (by omega)).mono ?_
                      rintro e2 wx ⟨Ao, co, rfl, ho, hco, hb⟩
                      have HOo := Lib.hid (Reads.of_own ho)
                      replace HBx := Lib.hid (HBx.out.trans (hb.mono HBx.out.size))
                      clear ho hb
                      refine hK.out _ _ (show _ ∧ _ from ⟨((HBx.out).cell (p := ad5.add i2) (by rw [block_add]; exact Nat.lt_of_lt_of_le HAB.out HW1.out)).trans HC5.out, trivial⟩) (fun hHeld => ?_)
                      clear hK K
                      try simp only [Act.put, List.setIfInBounds_toArray, List.set_cons_zero, List.set_cons_succ]
                      refine wpAnyH_ready (rs := [35, 42]) (by kernel_rfl) (by simp) ?_
                      refine AllReadyH.consL rfl (fun K hK => ?_) (AllReadyH.consL rfl (fun K hK => ?_) AllReadyH.nil)
                      ·
                        go_simp
                        refine (cut_any Ao (j - s) co (q.map upI) (m : Int) _ (Nat.le_refl _) HOo.out (by omega) HII.out (by omega) (by omega)).mono ?_
                        rintro e2 wx ⟨A1, m1, c1, rfl, ho, hb⟩
                        rw [HONE.out] at ho
                        obtain rfl : m1 = 1 := (nread_len (Reads.of_own ho)).symm
                        have HCt := Lib.hid (show Reads wx wx.heap.size 1 A1 1 (icells [((j - s : Nat) : Int)]) from Reads.of_own ho)
                        replace HBx := Lib.hid (HBx.out.trans (hb.mono HBx.out.size))
                        clear ho hb HOo
                        refine hK.out _ _ (show _ ∧ _ from ⟨((HBx.out).cell (p := ad5.add i2) (by rw [block_add]; exact Nat.lt_of_lt_of_le HAB.out HW1.out)).trans HC5.out, trivial⟩) (fun hHeld => ?_)
                        clear hK K
                        try simp only [Act.put, List.setIfInBounds_toArray, List.set_cons_zero, List.set_cons_succ]
                        refine wpAnyH_ready (rs := [42]) (by kernel_rfl) (by simp) ?_
                        refine AllReadyH.consL rfl (fun K hK => ?_) AllReadyH.nil
                        go_simp
                        have HAr := Lib.hid (show Reads (wx.alloc (.cells #[.int .i64 ((j - s : Nat) : Int)] 3)) (wx.alloc (.cells #[.int .i64 ((j - s : Nat) : Int)] 3)).heap.size 1 (some ⟨wx.heap.size, 0, none⟩) 1 (icells [((j - s : Nat) : Int)]) from (one_read wx 3 _).more (B' := (wx.alloc (.cells #[.int .i64 ((j - s : Nat) : Int)] 3)).heap.size) (by simp))
                        obtain ⟨ab, hab⟩ : ∃ y, y = wx.heap.size := ⟨_, rfl⟩
                        replace HBx := Lib.hid (show Below wr.heap.size wr (wx.alloc (.cells #[.int .i64 ((j - s : Nat) : Int)] 3)) from HBx.out.alloc HBx.out.size (.cells #[.int .i64 ((j - s : Nat) : Int)] 3))
                        replace HCt := Lib.hid ((HCt.out.alloc (Nat.le_refl _) (.cells #[.int .i64 ((j - s : Nat) : Int)] 3)).more (B' := (wx.alloc (.cells #[.int .i64 ((j - s : Nat) : Int)] 3)).heap.size) (by simp))
                        obtain ⟨wx, hwx⟩ : ∃ y, y = wx.alloc (.cells #[.int .i64 ((j - s : Nat) : Int)] 3) := ⟨_, rfl⟩
                        rw [← hwx] at HAr HBx HCt ⊢
                        rw [← hab] at HAr ⊢
                        clear hwx hab
                        refine hK.out _ _ (show _ ∧ _ from ⟨((HBx.out).cell (p := ad5.add i2) (by rw [block_add]; exact Nat.lt_of_lt_of_le HAB.out HW1.out)).trans HC5.out, trivial⟩) (fun hHeld => ?_)
                        clear hK K
                        try simp only [Act.put, List.setIfInBounds_toArray, List.set_cons_zero, List.set_cons_succ]
                        refine wpAnyH_ready (rs := [43]) (by kernel_rfl) (by simp) ?_
                        refine AllReadyH.consL rfl (fun K hK => ?_) AllReadyH.nil
                        go_simp
                        refine (sameI_yes A1 1 c1 (some ⟨ab, 0, none⟩) 1 [((j - s : Nat) : Int)] _ HCt.out HAr.out (by omega)).mono ?_
                        rintro e9 wz ⟨rfl, qz, rfl⟩
                        replace HBx := Lib.hid (below_drewN HBx.out qz)
                        refine hK.out _ _ (show _ ∧ _ from ⟨((HBx.out).cell (p := ad5.add i2) (by rw [block_add]; exact Nat.lt_of_lt_of_le HAB.out HW1.out)).trans HC5.out, trivial⟩) (fun hHeld => ?_)
                        clear hK K
                        try simp only [Act.put, List.setIfInBounds_toArray, List.set_cons_zero, List.set_cons_succ]
                        refine wpAnyH_takeL (i := 44) (v := ?_) rfl (by kernel_rfl) (by kernel_rfl) (by kernel_rfl) (fun _ _ _ h => h) (Or.inl ⟨by rfl, ?_⟩) (by first | exact hHeld | assumption | trivial) ?_
                        rotate_left
                        · intro wz hSz; (try dsimp only at hSz); go_simp; (try with_reducible rfl)
                        try simp only [Act.put, List.setIfInBounds_toArray, List.set_cons_zero, List.set_cons_succ]
                        refine wpAnyH_takeL (i := 45) (v := ?_) rfl (by kernel_rfl) (by kernel_rfl) (by kernel_rfl) (fun _ _ _ h => h) (Or.inl ⟨by rfl, ?_⟩) (by first | exact hHeld | assumption | trivial) ?_
                        rotate_left
                        · intro wz hSz; (try dsimp only at hSz); go_simp; (try with_reducible rfl)
                        try simp only [Act.put, List.setIfInBounds_toArray, List.set_cons_zero, List.set_cons_succ]
                        refine wpAnyH_done (by kernel_rfl) ?_ _
                        have hc5f := (HBx.out.cell (p := ad5.add i2) (by rw [block_add]; exact Nat.lt_of_lt_of_le HAB.out HW1.out)).trans HC5.out
                        have HBf := Lib.hid (HBr.out.trans (HBx.out.mono HW1.out))
                        clear HBx HCt HAr HRX HC5 HLw hXr
                        go_wp2_with fail
                        go_roundw
                        case rel =>
                          first
                            | exact ⟨i2 + 1, by omega, by go_num, by rw [HNx.out], HBf⟩
                            | ((repeat apply Exists.intro); exact ⟨⟨i2 + 1, by omega, by go_num, by rw [HNx.out], HBf⟩, rfl⟩)
                        case measure => simp [intOf]; omega
                      ·
                        go_simp
                        have HAr := Lib.hid (show Reads (wx.alloc (.cells #[.int .i64 ((j - s : Nat) : Int)] 3)) (wx.alloc (.cells #[.int .i64 ((j - s : Nat) : Int)] 3)).heap.size 1 (some ⟨wx.heap.size, 0, none⟩) 1 (icells [((j - s : Nat) : Int)]) from (one_read wx 3 _).more (B' := (wx.alloc (.cells #[.int .i64 ((j - s : Nat) : Int)] 3)).heap.size) (by simp))
                        obtain ⟨ab, hab⟩ : ∃ y, y = wx.heap.size := ⟨_, rfl⟩
                        replace HBx := Lib.hid (show Below wr.heap.size wr (wx.alloc (.cells #[.int .i64 ((j - s : Nat) : Int)] 3)) from HBx.out.alloc HBx.out.size (.cells #[.int .i64 ((j - s : Nat) : Int)] 3))
                        replace HOo := Lib.hid ((HOo.out.alloc (Nat.le_refl _) (.cells #[.int .i64 ((j - s : Nat) : Int)] 3)).more (B' := (wx.alloc (.cells #[.int .i64 ((j - s : Nat) : Int)] 3)).heap.size) (by simp))
                        obtain ⟨wx, hwx⟩ : ∃ y, y = wx.alloc (.cells #[.int .i64 ((j - s : Nat) : Int)] 3) := ⟨_, rfl⟩
                        rw [← hwx] at HAr HBx HOo ⊢
                        rw [← hab] at HAr ⊢
                        clear hwx hab
                        refine hK.out _ _ (show _ ∧ _ from ⟨((HBx.out).cell (p := ad5.add i2) (by rw [block_add]; exact Nat.lt_of_lt_of_le HAB.out HW1.out)).trans HC5.out, trivial⟩) (fun hHeld => ?_)
                        clear hK K
                        try simp only [Act.put, List.setIfInBounds_toArray, List.set_cons_zero, List.set_cons_succ]
                        refine wpAnyH_ready (rs := [35]) (by kernel_rfl) (by simp) ?_
                        refine AllReadyH.consL rfl (fun K hK => ?_) AllReadyH.nil
                        go_simp
                        refine (cut_any Ao (j - s) co (q.map upI) (m : Int) _ (Nat.le_refl _) HOo.out (by omega) HII.out (by omega) (by omega)).mono ?_
                        rintro e2 wx ⟨A1, m1, c1, rfl, ho, hb⟩
                        rw [HONE.out] at ho
                        obtain rfl : m1 = 1 := (nread_len (Reads.of_own ho)).symm
                        have HCt := Lib.hid (show Reads wx wx.heap.size 1 A1 1 (icells [((j - s : Nat) : Int)]) from Reads.of_own ho)
                        replace HBx := Lib.hid (HBx.out.trans (hb.mono HBx.out.size))
                        replace HAr := Lib.hid ((HAr.out.below hb).more hb.size)
                        clear ho hb HOo
                        refine hK.out _ _ (show _ ∧ _ from ⟨((HBx.out).cell (p := ad5.add i2) (by rw [block_add]; exact Nat.lt_of_lt_of_le HAB.out HW1.out)).trans HC5.out, trivial⟩) (fun hHeld => ?_)
                        clear hK K
                        try simp only [Act.put, List.setIfInBounds_toArray, List.set_cons_zero, List.set_cons_succ]
                        refine wpAnyH_ready (rs := [43]) (by kernel_rfl) (by simp) ?_
                        refine AllReadyH.consL rfl (fun K hK => ?_) AllReadyH.nil
                        go_simp
                        refine (sameI_yes A1 1 c1 (some ⟨ab, 0, none⟩) 1 [((j - s : Nat) : Int)] _ HCt.out HAr.out (by omega)).mono ?_
                        rintro e9 wz ⟨rfl, qz, rfl⟩
                        replace HBx := Lib.hid (below_drewN HBx.out qz)
                        refine hK.out _ _ (show _ ∧ _ from ⟨((HBx.out).cell (p := ad5.add i2) (by rw [block_add]; exact Nat.lt_of_lt_of_le HAB.out HW1.out)).trans HC5.out, trivial⟩) (fun hHeld => ?_)
                        clear hK K
                        try simp only [Act.put, List.setIfInBounds_toArray, List.set_cons_zero, List.set_cons_succ]
                        refine wpAnyH_takeL (i := 44) (v := ?_) rfl (by kernel_rfl) (by kernel_rfl) (by kernel_rfl) (fun _ _ _ h => h) (Or.inl ⟨by rfl, ?_⟩) (by first | exact hHeld | assumption | trivial) ?_
                        rotate_left
                        · intro wz hSz; (try dsimp only at hSz); go_simp; (try with_reducible rfl)
                        try simp only [Act.put, List.setIfInBounds_toArray, List.set_cons_zero, List.set_cons_succ]
                        refine wpAnyH_takeL (i := 45) (v := ?_) rfl (by kernel_rfl) (by kernel_rfl) (by kernel_rfl) (fun _ _ _ h => h) (Or.inl ⟨by rfl, ?_⟩) (by first | exact hHeld | assumption | trivial) ?_
                        rotate_left
                        · intro wz hSz; (try dsimp only at hSz); go_simp; (try with_reducible rfl)
                        try simp only [Act.put, List.setIfInBounds_toArray, List.set_cons_zero, List.set_cons_succ]
                        refine wpAnyH_done (by kernel_rfl) ?_ _
                        have hc5f := (HBx.out.cell (p := ad5.add i2) (by rw [block_add]; exact Nat.lt_of_lt_of_le HAB.out HW1.out)).trans HC5.out
                        have HBf := Lib.hid (HBr.out.trans (HBx.out.mono HW1.out))
                        clear HBx HCt HAr HRX HC5 HLw hXr
                        go_wp2_with fail
                        go_roundw
                        case rel =>
                          first
                            | exact ⟨i2 + 1, by omega, by go_num, by rw [HNx.out], HBf⟩
                            | ((repeat apply Exists.intro); exact ⟨⟨i2 + 1, by omega, by go_num, by rw [HNx.out], HBf⟩, rfl⟩)
                        case measure => simp [intOf]; omega
                    ·
                      go_simp
                      have HAr := Lib.hid (show Reads ((wr.alloc (.cells #[.int .i64 ((j - s : Nat) : Int)] 3)).drew) ((wr.alloc (.cells #[.int .i64 ((j - s : Nat) : Int)] 3)).drew).heap.size 1 (some ⟨wr.heap.size, 0, none⟩) 1 (icells [((j - s : Nat) : Int)]) from (one_read wr 3 _).more (B' := (wr.alloc (.cells #[.int .i64 ((j - s : Nat) : Int)] 3)).heap.size) (by simp))
                      obtain ⟨ab, hab⟩ : ∃ y, y = wr.heap.size := ⟨_, rfl⟩
                      replace HBx := Lib.hid (show Below wr.heap.size wr ((wr.alloc (.cells #[.int .i64 ((j - s : Nat) : Int)] 3)).drew) from ((Below.refl wr.heap.size wr).alloc (Nat.le_refl _) (.cells #[.int .i64 ((j - s : Nat) : Int)] 3)).drew)
                      obtain ⟨wx, hwx⟩ : ∃ y, y = (wr.alloc (.cells #[.int .i64 ((j - s : Nat) : Int)] 3)).drew := ⟨_, rfl⟩
                      rw [← hwx] at HAr HBx ⊢
                      rw [← hab] at HAr ⊢
                      clear hwx hab
                      refine hK.out _ _ (show _ ∧ _ from ⟨((HBx.out).cell (p := ad5.add i2) (by rw [block_add]; exact Nat.lt_of_lt_of_le HAB.out HW1.out)).trans HC5.out, trivial⟩) (fun hHeld => ?_)
                      clear hK K
                      try simp only [Act.put, List.setIfInBounds_toArray, List.set_cons_zero, List.set_cons_succ]
                      refine wpAnyH_ready (rs := [33]) (by kernel_rfl) (by simp) ?_
                      refine AllReadyH.consL rfl (fun K hK => ?_) AllReadyH.nil
                      go_simp
                      refine (own13_any X (j - s) (c' - s) (q.map upI) _ (Nat.le_trans HW1.out HBx.out.size) (HRX.out.below (HBx.out.mono HW1.out)) (by omega)).mono ?_
                      rintro e2 wx ⟨Ao, co, rfl, ho, hco, hb⟩
                      have HOo := Lib.hid (Reads.of_own ho)
                      replace HBx := Lib.hid (HBx.out.trans (hb.mono HBx.out.size))
                      replace HAr := Lib.hid ((HAr.out.below hb).more hb.size)
                      clear ho hb
                      refine hK.out _ _ (show _ ∧ _ from ⟨((HBx.out).cell (p := ad5.add i2) (by rw [block_add]; exact Nat.lt_of_lt_of_le HAB.out HW1.out)).trans HC5.out, trivial⟩) (fun hHeld => ?_)
                      clear hK K
                      try simp only [Act.put, List.setIfInBounds_toArray, List.set_cons_zero, List.set_cons_succ]
                      refine wpAnyH_ready (rs := [35]) (by kernel_rfl) (by simp) ?_
                      refine AllReadyH.consL rfl (fun K hK => ?_) AllReadyH.nil
                      go_simp
                      refine (cut_any Ao (j - s) co (q.map upI) (m : Int) _ (Nat.le_refl _) HOo.out (by omega) HII.out (by omega) (by omega)).mono ?_
                      rintro e2 wx ⟨A1, m1, c1, rfl, ho, hb⟩
                      rw [HONE.out] at ho
                      obtain rfl : m1 = 1 := (nread_len (Reads.of_own ho)).symm
                      have HCt := Lib.hid (show Reads wx wx.heap.size 1 A1 1 (icells [((j - s : Nat) : Int)]) from Reads.of_own ho)
                      replace HBx := Lib.hid (HBx.out.trans (hb.mono HBx.out.size))
                      replace HAr := Lib.hid ((HAr.out.below hb).more hb.size)
                      clear ho hb HOo
                      refine hK.out _ _ (show _ ∧ _ from ⟨((HBx.out).cell (p := ad5.add i2) (by rw [block_add]; exact Nat.lt_of_lt_of_le HAB.out HW1.out)).trans HC5.out, trivial⟩) (fun hHeld => ?_)
                      clear hK K
                      try simp only [Act.put, List.setIfInBounds_toArray, List.set_cons_zero, List.set_cons_succ]
                      refine wpAnyH_ready (rs := [43]) (by kernel_rfl) (by simp) ?_
                      refine AllReadyH.consL rfl (fun K hK => ?_) AllReadyH.nil
                      go_simp
                      refine (sameI_yes A1 1 c1 (some ⟨ab, 0, none⟩) 1 [((j - s : Nat) : Int)] _ HCt.out HAr.out (by omega)).mono ?_
                      rintro e9 wz ⟨rfl, qz, rfl⟩
                      replace HBx := Lib.hid (below_drewN HBx.out qz)
                      refine hK.out _ _ (show _ ∧ _ from ⟨((HBx.out).cell (p := ad5.add i2) (by rw [block_add]; exact Nat.lt_of_lt_of_le HAB.out HW1.out)).trans HC5.out, trivial⟩) (fun hHeld => ?_)
                      clear hK K
                      try simp only [Act.put, List.setIfInBounds_toArray, List.set_cons_zero, List.set_cons_succ]
                      refine wpAnyH_takeL (i := 44) (v := ?_) rfl (by kernel_rfl) (by kernel_rfl) (by kernel_rfl) (fun _ _ _ h => h) (Or.inl ⟨by rfl, ?_⟩) (by first | exact hHeld | assumption | trivial) ?_
                      rotate_left
                      · intro wz hSz; (try dsimp only at hSz); go_simp; (try with_reducible rfl)
                      try simp only [Act.put, List.setIfInBounds_toArray, List.set_cons_zero, List.set_cons_succ]
                      refine wpAnyH_takeL (i := 45) (v := ?_) rfl (by kernel_rfl) (by kernel_rfl) (by kernel_rfl) (fun _ _ _ h => h) (Or.inl ⟨by rfl, ?_⟩) (by first | exact hHeld | assumption | trivial) ?_
                      rotate_left
                      · intro wz hSz; (try dsimp only at hSz); go_simp; (try with_reducible rfl)
                      try simp only [Act.put, List.setIfInBounds_toArray, List.set_cons_zero, List.set_cons_succ]
                      refine wpAnyH_done (by kernel_rfl) ?_ _
                      have hc5f := (HBx.out.cell (p := ad5.add i2) (by rw [block_add]; exact Nat.lt_of_lt_of_le HAB.out HW1.out)).trans HC5.out
                      have HBf := Lib.hid (HBr.out.trans (HBx.out.mono HW1.out))
                      clear HBx HCt HAr HRX HC5 HLw hXr
                      go_wp2_with fail
                      go_roundw
                      case rel =>
                        first
                          | exact ⟨i2 + 1, by omega, by go_num, by rw [HNx.out], HBf⟩
                          | ((repeat apply Exists.intro); exact ⟨⟨i2 + 1, by omega, by go_num, by rw [HNx.out], HBf⟩, rfl⟩)
                      case measure => simp [intOf]; omega
            · obtain rfl : i2 = z + 1 := by omega
              have p1 : ¬ ((z + 1 : Nat) : Int) < ((z + 1 : Nat) : Int) := by omega
              have HNx := Lib.hid (show prevE ES (z + 1) = k by unfold prevE; rw [if_neg (by omega), Nat.add_sub_cancel, List.getD_eq_getElem?_getD, HLst.out]; rfl)
              rw [HNx.out]
              go_wp2_with fail
              go_ret
              exact ⟨by simp, HB.out.trans (HBr.out.mono HB.out.size)⟩
set_option maxRecDepth 100000 in
theorem bubegins_walk (A : Option Addr) (n c : Nat) (zs : List Int) (r first : Int) (w : World) (hz : IsRow .u16 w A n c zs) (hr : (Lit.int .u16 r).wf = true) (_hf : (Lit.int .i64 first).wf = true) :
    Calls Try.prog 6 #[.slice A n c, .int .u16 r, .int .i64 first] w fun e w' => e = .returned (.bool true) ∧ Below w.heap.size w w' := by
  obtain ⟨h1, h2⟩ := lit_u16' hr
  obtain ⟨r, rfl⟩ := Int.eq_ofNat_of_zero_le h1
  obtain ⟨g1, _, _, g4, g5⟩ := hz.reads
  by_cases h100 : n ≤ 100
  · exact bubegins_main A n c (zs.take n) r first w g1 g4 (fun z hz => lit_u16' (g5 z hz)) h100 (by omega)
  · have hgt : (100 : Int) < (n : Int) := by omega
    have HB := Lib.hid (Below.refl w.heap.size w)
    clear g1 g4 g5 hz
    go_enter Try.func6, Try.ntmps6
    go_wp2_with fail
    refine (lives13_any _).mono ?_
    rintro e w1 ⟨rfl, hb⟩
    replace HB := Lib.hid (HB.out.trans (hb.mono HB.out.size))
    clear hb
    go_wp2_with fail
    go_ret
    exact ⟨rfl, HB.out⟩
end Go.Proofs.Ytgnpldlgdapehaa
