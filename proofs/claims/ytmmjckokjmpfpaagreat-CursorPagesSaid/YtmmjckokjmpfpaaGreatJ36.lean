/-
  Contract of the kit's Sorted: pairs by keys. No statement is proved here.
-/
import Derived.Deep.CutBlock
import Derived.Deep.CutRange
import Derived.Deep.RegionLaw
import Derived.Lib.SliceRun
import Derived.Test.YtmmjckokjmpfpaaGreatJ35
import Derived.Test.YtmmjckokjmpfpaaGreatJ18
set_option linter.unusedVariables false
set_option linter.unusedSimpArgs false
namespace Go.Proofs.YtmmjckokjmpfpaaGreat
open Go.RowKit
open Go.Lib hiding intOf
attribute [local go_sem ↓] Go.wp_at_zero Go.wp_at_succ

def posP (key : ByteArray) : List Pr → Nat
 | [] => 0
 | p :: t => if Op.bytesLess p.ky.toList key.toList then posP key t + 1 else 0
def insP (out : List Pr) (p : Pr) : List Pr :=
 if (out[posP p.ky out]?.map (·.ky)) = some p.ky then out.set (posP p.ky out) p else out.take (posP p.ky out) ++ p :: out.drop (posP p.ky out)
def sortP (l : List Pr) : List Pr := l.foldl insP []
theorem posP_le (key : ByteArray) : ∀ out : List Pr, posP key out ≤ out.length
 | [] => Nat.le_refl _
 | p :: t => by
  unfold posP
  split
  ·have := posP_le key t; simp; omega
  ·simp
theorem posP_lt {key : ByteArray} : ∀ {out : List Pr} {k : Nat} {x : Pr}, k < posP key out → out[k]? = some x → Op.bytesLess x.ky.toList key.toList = true
 | [], k, x, h, hx => by simp [posP] at h
 | p :: t, k, x, h, hx => by
  unfold posP at h
  split at h
  ·cases k with
   | zero => simp at hx; subst hx; assumption
   | succ k => exact posP_lt (by omega : k < posP key t) (by simpa using hx)
  ·omega
theorem posP_at {key : ByteArray} : ∀ {out : List Pr} {x : Pr}, out[posP key out]? = some x → Op.bytesLess x.ky.toList key.toList = false
 | [], x, hx => by simp [posP] at hx
 | p :: t, x, hx => by
  rcases hp : Op.bytesLess p.ky.toList key.toList with _ | _
  ·have h0 : posP key (p :: t) = 0 := by simp [posP, hp]
   rw [h0] at hx
   simp at hx
   subst hx
   exact hp
  ·have h0 : posP key (p :: t) = posP key t + 1 := by simp [posP, hp]
   rw [h0] at hx
   exact posP_at (by simpa using hx)
theorem insP_len (out : List Pr) (p : Pr) : (insP out p).length ≤ out.length + 1 := by
 unfold insP
 split
 ·simp
 ·have := posP_le p.ky out
  simp
  omega
theorem sortP_snoc (l : List Pr) (p : Pr) : sortP (l ++ [p]) = insP (sortP l) p := by unfold sortP; rw [List.foldl_append]; rfl
theorem foldP_len : ∀ (l acc : List Pr), (l.foldl insP acc).length ≤ acc.length + l.length
 | [], acc => by simp
 | p :: l, acc => by
  have h1 := foldP_len l (insP acc p)
  have h2 := insP_len acc p
  simp only [List.foldl_cons, List.length_cons]
  omega
theorem sortP_len (l : List Pr) : (sortP l).length ≤ l.length := by
 have := foldP_len l []
 simpa [sortP] using this
theorem own_setC {w : World} {base sz n cap g j : Nat} {e : TypeId} {xs : List Value} (h : w.ownsRow base e sz (.slice (some ⟨g, 0, none⟩) n cap) n xs) (u : Value) : (w.setCell ⟨g, j, none⟩ u).ownsRow base e sz (.slice (some ⟨g, 0, none⟩) n cap) n (xs.set j u) := by
 refine ⟨by rw [List.length_set]; exact h.1, ?_⟩
 rcases h.2 with ⟨h0, _⟩ | ⟨g', cap', cur, hv, hb, hh, h1, h2, h3, h4⟩
 ·cases h0
 ·injection hv with e1 _ e3
  injection e1 with e1
  injection e1 with e1
  subst e1 e3
  refine .inr ⟨g, cap, cur.setIfInBounds j u, rfl, hb, Blk.set_ (t := e) hh j u, h1, h2, by simpa using h3, ?_⟩
  rw [← h4, Array.toList_setIfInBounds, List.take_set]
theorem prc_set : ∀ (l : List Pr) (k : Nat) (p : Pr), ((prc l).set (k * 2) (.string p.ky)).set (k * 2 + 1) (.string p.vl) = prc (l.set k p)
 | [], k, p => by simp [prc, rowsOf]
 | q :: l, 0, p => by simp [prc, rowsOf, Pr.cells]
 | q :: l, k + 1, p => by
  have h := prc_set l k p
  have e1 : (k + 1) * 2 = k * 2 + 1 + 1 := by omega
  rw [e1]
  show (((Value.string q.ky) :: (Value.string q.vl) :: prc l).set (k * 2 + 1 + 1) _).set (k * 2 + 1 + 1 + 1) _ = _
  rw [List.set_cons_succ, List.set_cons_succ, List.set_cons_succ, List.set_cons_succ, h]
  rfl
theorem own_frozenC {w : World} {base sz n cap g : Nat} {e : TypeId} {xs : List Value} (h : w.ownsRow base e sz (.slice (some ⟨g, 0, none⟩) n cap) n xs) (o : Nat) : w.frozen? ⟨g, o, none⟩ = false := by
 rcases h.2 with ⟨h0, _⟩ | ⟨g', cap', cur, hv, hb, hh, h1, h2, h3, h4⟩
 ·cases h0
 ·injection hv with e1 _ e3
  injection e1 with e1
  injection e1 with e1
  subst e1 e3
  exact Blk.frozen (t := e) hh o
theorem infoPrS : (Tryz.prog.info? 55).map (fun i => (i.zero, i.size, i.bytes)) = some (some (.agg #[.string ByteArray.empty, .string ByteArray.empty]), 2, 32) := by kernel_rfl
theorem partP_lo (A : Option Addr) (n c j : Nat) (hc : n ≤ c) (hj : j ≤ n) : ∃ X, (∀ w : World, (Instr.sliceAt 26 (.slice A n c) none (some (.int .i64 (j : Int))) none).run Tryz.prog w = .ok (.slice X j c) w) ∧
  ∀ (w : World) (B : Nat) (l : List Pr), Reads w B 2 A n (prc l) → Reads w B 2 X j (prc (l.take j)) := by
 refine ⟨(if c = 0 then A else A.map (·.add (0 * 2))), fun w => ?_, fun w B l h => ?_⟩
 ·obtain ⟨i0, hi0, hz0, hz1, hz2⟩ := info_parts infoPrS
  have he : Tryz.prog.elem 26 = 55 := by kernel_rfl
  have hu : Tryz.prog.underlying 26 = some (.slice (Tryz.prog.elem 26)) := by rw [he]; exact Tryz.underlying26
  rw [run_sliceAt_slice w _ _ _ _ _ hu, run_slice_h w _ A n c hu .i64 j (by omega) (by omega), he]
  simp [sizeOf, typeInfo, hi0, hz1, sliced]
 ·have h1 := rows_take (fun x => Pr.cells_len x) h hj
  have h2 : (if c = 0 then A else A.map (·.add (0 * 2))) = A := by
   split
   ·rfl
   ·cases A with
    | none => rfl
    | some a => simp [Addr.add]
  rw [h2]
  exact h1
theorem partP_hi (A : Option Addr) (n c i : Nat) (hc : n ≤ c) (hi : i ≤ n) : ∃ X r, (∀ w : World, (Instr.sliceAt 26 (.slice A n c) (some (.int .i64 (i : Int))) none none).run Tryz.prog w = .ok (.slice X (n - i) r) w) ∧
  ∀ (w : World) (B : Nat) (l : List Pr), Reads w B 2 A n (prc l) → Reads w B 2 X (n - i) (prc (l.drop i)) := by
 refine ⟨(if c = i then A else A.map (·.add (i * 2))), c - i, fun w => ?_, fun w B l h => ?_⟩
 ·obtain ⟨i0, hi0, hz0, hz1, hz2⟩ := info_parts infoPrS
  have he : Tryz.prog.elem 26 = 55 := by kernel_rfl
  have hu : Tryz.prog.underlying 26 = some (.slice (Tryz.prog.elem 26)) := by rw [he]; exact Tryz.underlying26
  rw [run_sliceAt_slice w _ _ _ _ _ hu, run_slice_l w _ A n c hu .i64 i (by omega) (by omega), he]
  simp [sizeOf, typeInfo, hi0, hz1, sliced]
 ·exact rows_drop (fun x => Pr.cells_len x) h hi hc
theorem bytesP_inj {a b : ByteArray} (h : a.toList = b.toList) : a = b := by
 rw [ByteArray.toList_eq, ByteArray.toList_eq] at h
 cases a
 cases b
 congr
 exact Array.toList_inj.1 h
theorem prc_one (l : List Pr) : ∀ u ∈ prc l, u.oneCell' = true := by
 intro u hu
 simp only [prc, rowsOf, List.mem_flatMap] at hu
 obtain ⟨x, _, hx⟩ := hu
 simp only [Pr.cells, List.mem_cons, List.not_mem_nil, or_false] at hx
 rcases hx with rfl | rfl <;> rfl
set_option maxRecDepth 300000 in
set_option maxHeartbeats 12800000 in
theorem sorted_any (A : Option Addr) (n c : Nat) (l : List Pr) (w : World) (hr : Reads w w.heap.size 2 A n (prc l)) (hn : n ≤ 100000) :
  Calls Tryz.prog 29 #[.slice A n c] w fun e w' => ∃ A' n' c', e = .returned (.slice A' n' c') ∧ w'.ownsRow w.heap.size 55 2 (.slice A' n' c') n' (prc (sortP l)) ∧ Below w.heap.size w w' := by
 have HR := Lib.hid hr
 have HL := Lib.hid (pr_len hr)
 clear hr
 go_enter Tryz.func29, Tryz.ntmps29
 go_wp2_with fail
 go_loopw [3, 4] (fun vo vi wr => ∃ (i m : Nat) (A' : Option Addr) (c' : Nat), i ≤ n ∧ vi = .int .i64 i ∧ vo = .slice A' m c' ∧ m ≤ i ∧ Hid (wr.ownsRow w.heap.size 55 2 (.slice A' m c') m (prc (sortP (l.take i)))) ∧ Hid (Below w.heap.size w wr)) (fun _ vi _ => n - (intOf vi).toNat)
 case atStart => exact ⟨0, 0, none, 0, Nat.zero_le _, rfl, rfl, Nat.le_refl _, Lib.hid (World.ownsRow_nil _ _ _ _), Lib.hid (Below.refl _ _)⟩
 case round =>
  obtain ⟨i, m, A', c', hi, rfl, rfl, hmi, HO, HB⟩ := hrel
  rename World => wo
  by_cases hlt : i < n
  rotate_left
  ·obtain rfl : i = n := by omega
   have htk : l.take i = l := List.take_of_length_le (by rw [HL.out]; exact Nat.le_refl _)
   rw [htk] at HO
   clear hlt htk
   go_wp2_with fail
   go_ret
   exact ⟨A', m, c', rfl, HO.out, HB.out⟩
  obtain ⟨ad, ⟨ky, vl⟩, rfl, hab, hab2, hx, hat⟩ := pr_at HR.out hlt
  have k0 := hat.1
  have k1 := hat.2
  dsimp only at k0 k1
  obtain ⟨S, hS⟩ : ∃ S, S = sortP (l.take i) := ⟨_, rfl⟩
  have HSn := Lib.hid (show sortP (l.take (i + 1)) = insP S ⟨ky, vl⟩ by rw [take_snoc_at hx, sortP_snoc, hS])
  rw [← hS] at HO
  have HRo := Lib.hid (Reads.of_own HO.out)
  have hsl : S.length = m := pr_len HRo.out
  have HSl := Lib.hid hsl
  have hi0 : (0 : Int) ≤ i := by omega
  have hi1 : (i : Int) < n := by omega
  obtain ⟨jj, hK⟩ : ∃ jj, jj = posP ky S := ⟨_, rfl⟩
  have HK := Lib.hid hK
  have hKm : jj ≤ m := by rw [hK, ← hsl]; exact posP_le _ _
  clear hx hat hS hsl hK
  go_upto_block 2 with fail
  go_cut [5] from 6 to 69 (fun vk wx => vk = .int .i64 jj ∧ ∃ q, wx = wo.drewN q)
  case first =>
   go_wp2_with fail
   go_loopw [5] (fun vk wx => ∃ k : Nat, k ≤ jj ∧ vk = .int .i64 k ∧ ∃ q, wx = wo.drewN q) (fun vk _ => m - (intOf vk).toNat)
   case atStart => exact ⟨0, Nat.zero_le _, rfl, 0, rfl⟩
   case round =>
    obtain ⟨k, hk, rfl, q, hq⟩ := hrel
    rename World => wx
    have p0 : wx.cell? (ad.add (i * 2)) = some (.string ky) := by rw [hq]; exact (HB.out.cell (p := ad.add (i * 2)) hab2).trans k0
    have HQ := Lib.hid hq
    clear hq
    by_cases hkm : k < m
    ·obtain ⟨ad', ⟨ky', vl'⟩, rfl, _, _, hx', hc'⟩ := pr_at HRo.out hkm
     have p1 : wx.cell? (ad'.add (k * 2)) = some (.string ky') := by rw [HQ.out]; exact hc'.1
     have hk0 : (0 : Int) ≤ k := by omega
     have hk1 : (k : Int) < m := by omega
     by_cases hkK : k < jj
     ·have hls : Op.bytesLess ky'.toList ky.toList = true := posP_lt (by rw [← HK.out]; exact hkK) hx'
      clear hx' hc'
      go_wp2_with fail
      go_quiet (fail)
      go_wp2_with fail
      exact ⟨⟨k + 1, by omega, by go_num, q + nq, by rw [HQ.out, World.drewN_drewN]⟩, by simp [intOf]; omega⟩
     ·obtain rfl : k = jj := by omega
      have hls : Op.bytesLess ky'.toList ky.toList = false := posP_at (by rw [← HK.out]; exact hx')
      clear hx' hc'
      go_wp2_with fail
      go_quiet (fail)
      go_wp2_with fail
      go_meet
      exact ⟨rfl, q + nq, by rw [HQ.out, World.drewN_drewN]⟩
    ·have hg : decide ((k : Int) < (m : Int)) = false := by simp; omega
     obtain rfl : k = jj := by omega
     go_wp2_with fail
     go_quiet (fail)
     go_wp2_with fail
     go_meet
     exact ⟨rfl, q + nq, by rw [HQ.out, World.drewN_drewN]⟩
  case rest =>
   obtain ⟨rfl, q, hq⟩ := hcut
   rename World => wq
   have HBq := Lib.hid (show Below w.heap.size w wq by rw [hq]; exact below_drewN HB.out q)
   have HOq := Lib.hid (show wq.ownsRow w.heap.size 55 2 (.slice A' m c') m (prc S) by rw [hq]; exact HO.out)
   clear hq HO HB HRo
   have p0 : wq.cell? (ad.add (i * 2)) = some (.string ky) := (HBq.out.cell (p := ad.add (i * 2)) hab2).trans k0
   have p1 : wq.cell? ⟨(ad.add (i * 2)).block, (ad.add (i * 2)).off + 1, none⟩ = some (.string vl) := (HBq.out.cell (p := ⟨(ad.add (i * 2)).block, (ad.add (i * 2)).off + 1, none⟩) hab2).trans k1
   have HRq := Lib.hid (Reads.of_own HOq.out)
   have hK0 : (0 : Int) ≤ jj := by omega
   by_cases heq : (S[jj]?.map (·.ky)) = some ky
   ·obtain ⟨⟨ky2, vl2⟩, hx2, hk2⟩ := Option.map_eq_some_iff.1 heq
    dsimp only at hk2
    subst hk2
    have hKlt : jj < m := by rw [← HSl.out]; exact (List.getElem?_eq_some_iff.1 hx2).1
    obtain ⟨ad', x', rfl, _, _, hx', hc'⟩ := pr_at HRq.out hKlt
    rw [hx2] at hx'
    injection hx' with hx'
    subst hx'
    have s0 := hc'.1
    have s1 := hc'.2
    dsimp only at s0 s1
    have hK1 : (jj : Int) < m := by omega
    have hins := HSn.out
    rw [show insP S ⟨ky2, vl⟩ = S.set jj ⟨ky2, vl⟩ by unfold insP; rw [← HK.out, if_pos heq]] at hins
    have HIns := Lib.hid hins
    obtain ⟨g, cap, hv, hbg, _⟩ := HOq.out.form (by omega)
    injection hv with hA _ hcp
    injection hA with hA
    subst hA hcp
    have hfr : ∀ o, wq.frozen? ⟨g, o, none⟩ = false := own_frozenC HOq.out
    have f0 := hfr (jj * 2)
    have f1 := hfr (jj * 2 + 1)
    have hqK : (⟨g, 0, none⟩ : Addr).add (jj * 2) = ⟨g, jj * 2, none⟩ := by unfold Addr.add; split <;> simp_all
    rw [hqK] at s0 s1
    dsimp only at s0 s1
    have hgw : w.heap.size ≤ g := hbg
    have hne : (ad.add (i * 2)).block ≠ g := by omega
    clear hx2 heq hins hc' hfr hab hbg
    go_wp2_with fail
    go_quiet (fail)
    go_wp2_with fail
    exact ⟨⟨i + 1, m, _, _, by omega, by go_num, rfl, by omega, Lib.hid (by rw [HIns.out, ← prc_set]; exact own_setC (own_setC (w := wq.drewN nq) HOq.out _) _), Lib.hid (((below_drewN HBq.out nq).setCell hgw _).setCell hgw _)⟩, by simp [intOf]; omega⟩
   ·have hins := HSn.out
    rw [show insP S ⟨ky, vl⟩ = S.take jj ++ ⟨ky, vl⟩ :: S.drop jj by unfold insP; rw [← HK.out, if_neg heq]] at hins
    have HIns := Lib.hid hins
    have HTk := Lib.hid (rows_take (fun x => Pr.cells_len x) HRq.out hKm)
    obtain ⟨XL, hXL, HXL⟩ := partP_lo A' m c' jj (own_cap HOq.out) hKm
    obtain ⟨XH, rH, hXH, HXH⟩ := partP_hi A' m c' jj (own_cap HOq.out) hKm
    have HLo := Lib.hid (HXL wq _ S HRq.out)
    have HHi := Lib.hid (HXH wq _ S HRq.out)
    clear HTk HXL HXH hins
    by_cases hKlt : jj < m
    ·obtain ⟨ad', ⟨ky', vl'⟩, rfl, _, _, hx', hc'⟩ := pr_at HRq.out hKlt
     have s0 := hc'.1
     dsimp only at s0
     have hK1 : (jj : Int) < m := by omega
     have hne : (ky'.toList == ky.toList) = false := by
      rw [beq_eq_false_iff_ne]
      intro he
      exact heq (by rw [hx', ← bytesP_inj he]; rfl)
     clear hx' hc' heq
     go_upto_region 8 with fail
     go_quiet (fail)
     go_upto_region 10 with fail
     obtain ⟨wz, hwz⟩ : ∃ x, x = wq.drewN nq := ⟨_, rfl⟩
     have bz : Below w.heap.size w wz := by rw [hwz]; exact below_drewN HBq.out nq
     have RL : Reads wz wz.heap.size 2 XL jj (prc (S.take jj)) := by rw [hwz]; exact HLo.out
     have RH : Reads wz wz.heap.size 2 XH (m - jj) (prc (S.drop jj)) := by rw [hwz]; exact HHi.out
     rw [← hwz]
     clear hwz p0 p1
     have hkS := fun (wx : World) (b : Below w.heap.size w wx) => (show wx.cell? (ad.add (i * 2)) = some (.string ky) ∧ wx.cell? ⟨(ad.add (i * 2)).block, (ad.add (i * 2)).off + 1, none⟩ = some (.string vl) from ⟨(b.cell (p := ad.add (i * 2)) hab2).trans k0, (b.cell (p := ⟨(ad.add (i * 2)).block, (ad.add (i * 2)).off + 1, none⟩) hab2).trans k1⟩)
     obtain ⟨i0, hi0', hz0', hz1', hz2'⟩ := info_parts infoPrS
     refine wp_region_held_drew (S := fun wx => wx.cell? (ad.add (i * 2)) = some (.string ky) ∧ wx.cell? ⟨(ad.add (i * 2)).block, (ad.add (i * 2)).off + 1, none⟩ = some (.string vl)) (by kernel_rfl) (hkS _ bz.drew) (fun _ => ?_)
     have hHeld := hkS _ bz.drew
     refine tkL (i := 1) (v := ?_) ?_ (by exact hHeld) ?_
     rotate_left
     ·intro wz hSz; (try dsimp only at hSz); obtain ⟨z0, z1⟩ := hSz; go_simp; (try with_reducible rfl)
     try simp only [tkP]
     refine tkL (i := 2) (v := ?_) ?_ (by exact hHeld) ?_
     rotate_left
     ·intro wz hSz; (try dsimp only at hSz); obtain ⟨z0, z1⟩ := hSz; go_simp; (try with_reducible rfl)
     try simp only [tkP]
     refine tkL (i := 3) (v := ?_) ?_ (by exact hHeld) ?_
     rotate_left
     ·intro wz hSz; (try dsimp only at hSz); obtain ⟨z0, z1⟩ := hSz; go_simp; (try with_reducible rfl)
     try simp only [tkP]
     refine tkL (i := 5) (v := ?_) ?_ (by exact hHeld) ?_
     rotate_left
     ·intro wz hSz; (try dsimp only at hSz); obtain ⟨z0, z1⟩ := hSz; go_simp; (try with_reducible rfl)
     try simp only [tkP]
     refine tkL (i := 6) (v := ?_) ?_ (by exact hHeld) ?_
     rotate_left
     ·intro wz hSz; (try dsimp only at hSz); obtain ⟨z0, z1⟩ := hSz; go_simp; (try with_reducible rfl)
     try simp only [tkP]
     refine tkL (i := 7) (v := ?_) ?_ (by exact hHeld) ?_
     rotate_left
     ·intro wz hSz; (try dsimp only at hSz); obtain ⟨z0, z1⟩ := hSz; go_simp; (try with_reducible rfl)
     try simp only [tkP]
     refine tkL (i := 8) (v := ?_) ?_ (by exact hHeld) ?_
     rotate_left
     ·intro wz hSz; (try dsimp only at hSz); obtain ⟨z0, z1⟩ := hSz; go_simp; (try with_reducible rfl)
     try simp only [tkP]
     refine tkL (i := 11) (v := ?_) ?_ (by exact hHeld) ?_
     rotate_left
     ·intro wz hSz; (try dsimp only at hSz); obtain ⟨z0, z1⟩ := hSz; go_simp; (try with_reducible rfl)
     try simp only [tkP]
     refine tkL (i := 12) (v := ?_) ?_ (by exact hHeld) ?_
     rotate_left
     ·intro wz hSz; (try dsimp only at hSz); obtain ⟨z0, z1⟩ := hSz; go_simp; (try with_reducible rfl)
     try simp only [tkP]
     refine tkL (i := 13) (v := ?_) ?_ (by exact hHeld) ?_
     rotate_left
     ·intro wz hSz; (try dsimp only at hSz); obtain ⟨z0, z1⟩ := hSz; go_simp; (try with_reducible rfl)
     try simp only [tkP]
     refine wpAnyH_ready (rs := [0, 9]) (by kernel_rfl) (by simp) ?_
     refine AllReadyH.consL rfl (fun K hK => ?_) (AllReadyH.consL rfl (fun K hK => ?_) AllReadyH.nil)
     ·skip
      obtain ⟨wa, hwa⟩ : ∃ x, x = (wz.alloc (.cells #[] 55)).drew := ⟨_, rfl⟩
      have ea : wa.ownsRow wz.heap.size 55 2 (.slice (some ⟨wz.heap.size, 0, none⟩) 0 0) 0 [] := by rw [hwa]; exact (World.ownsRow_made (e := 55) (size := 2) wz #[] 0 (Nat.le_refl wz.heap.size) (by simp [maxLen]) rfl).drew
      have ba : Below wz.heap.size wz wa := by rw [hwa]; exact ((Below.refl _ _).alloc (Nat.le_refl _) _).drew
      have hsa : wz.heap.size < wa.heap.size := by rw [hwa]; simp
      go_simp
      rw [← hwa]
      clear hwa
      refine hK.out _ _ (hkS _ (bz.trans (ba.mono bz.size))) (fun hHeld => ?_)
      clear hK K
      try simp only [tkP]
      refine wpAnyH_ready (rs := [4, 9]) (by kernel_rfl) (by simp) ?_
      refine AllReadyH.consL rfl (fun K hK => ?_) (AllReadyH.consL rfl (fun K hK => ?_) AllReadyH.nil)
      ·skip
       refine step_append_any (by rfl) (.tmp 55) (.tmp 58) _ (by rfl) wz.heap.size 55 i0 _ 2 32 Tryz.underlying26 hi0' hz0' hz1' hz2' rfl (by omega) (.slice (some ⟨wz.heap.size, 0, none⟩) 0 0) 0 [] (by rfl) ea wz.heap.size XL jj c' (prc (S.take jj)) (by rfl) (RL.below ba) (prc_one _) (by unfold maxLen; omega) (by omega) ba.size ?_
       intro v2 w2 hown2 hg2 hat2
       have b2 := ba.grown hg2 ba.size (fun g hg => (ea.lt g hg).1)
       refine hK.out _ _ (hkS _ (bz.trans (b2.mono bz.size))) (fun hHeld => ?_)
       clear hK K
       try simp only [tkP]
       refine wpAnyH_ready (rs := [9]) (by kernel_rfl) (by simp) ?_
       refine tkC (fun K hK => ?_)
       obtain ⟨w3, hw3⟩ : ∃ x, x = w2.alloc (.cells #[.string ky, .string vl] 55) := ⟨_, rfl⟩
       have r3 : w3.ownsRow wz.heap.size 55 2 v2 (0 + jj) ([] ++ prc (S.take jj)) := by rw [hw3]; exact hown2.alloc _
       have o3 : Blk w3 w2.heap.size 55 #[.string ky, .string vl] := by rw [hw3]; exact Blk.new _ _ _
       have b3 : Below wz.heap.size wz w3 := by rw [hw3]; exact b2.alloc b2.size _
       go_simp
       rw [← hw3]
       clear hw3
       refine hK.out _ _ (hkS _ (bz.trans (b3.mono bz.size))) (fun hHeld => ?_)
       clear hK K
       try simp only [tkP]
       refine wpAnyH_ready (rs := [10]) (by kernel_rfl) (by simp) ?_
       refine tkC (fun K hK => ?_)
       refine step_append_any (by rfl) (.tmp 59) (.tmp 64) _ (by rfl) wz.heap.size 55 i0 _ 2 32 Tryz.underlying26 hi0' hz0' hz1' hz2' rfl (by omega) v2 (0 + jj) ([] ++ prc (S.take jj)) (by rfl) r3 (w2.heap.size + 1) (some ⟨w2.heap.size, 0, none⟩) 1 1 (prc [⟨ky, vl⟩]) (by rfl) (reads_own (n := 1) o3 rfl) (prc_one _) (by unfold maxLen; omega) (by omega) b3.size ?_
       intro v4 w4 hown4 hg4 hat4
       have b4 := b3.grown hg4 b3.size (fun g hg => (r3.lt g hg).1)
       refine hK.out _ _ (hkS _ (bz.trans (b4.mono bz.size))) (fun hHeld => ?_)
       clear hK K
       try simp only [tkP]
       refine wpAnyH_ready (rs := [14]) (by kernel_rfl) (by simp) ?_
       refine tkC (fun K hK => ?_)
       refine step_append_any (by rfl) (.tmp 65) (.tmp 68) _ (by rfl) wz.heap.size 55 i0 _ 2 32 Tryz.underlying26 hi0' hz0' hz1' hz2' rfl (by omega) v4 (0 + jj + 1) ([] ++ prc (S.take jj) ++ prc [⟨ky, vl⟩]) (by rfl) hown4 wz.heap.size XH (m - jj) _ (prc (S.drop jj)) (by rfl) (RH.below b4) (prc_one _) (by unfold maxLen; omega) (by omega) b4.size ?_
       intro v5 w5 hown5 hg5 hat5
       have b5 := b4.grown hg5 b4.size (fun g hg => (hown4.lt g hg).1)
       refine hK.out _ _ (hkS _ (bz.trans (b5.mono bz.size))) (fun hHeld => ?_)
       clear hK K
       try simp only [tkP]
       refine tkA (i := 15) ?_
       try simp only [tkP]
       refine wpAnyH_done (by kernel_rfl) ?_ _
       obtain ⟨A5, c5, rfl, _, _, _⟩ := own_form hown5
       have E1 := Lib.hid (own_low hown5 bz.size)
       rw [List.nil_append, ← prc_append, ← prc_append, List.append_assoc, List.singleton_append, ← HIns.out] at E1
       have E2 := Lib.hid (bz.trans (b5.mono bz.size))
       clear hHeld hown5 hg5 hat5 hown4 hg4 hat4
       go_wp2_with fail
       exact ⟨⟨i + 1, 0 + jj + 1 + (m - jj), A5, c5, by omega, by go_num, rfl, by omega, E1, E2⟩, by simp [intOf]; omega⟩
      ·skip
       obtain ⟨wb, hwb⟩ : ∃ x, x = wa.alloc (.cells #[.string ky, .string vl] 55) := ⟨_, rfl⟩
       have eb : wb.ownsRow wz.heap.size 55 2 (.slice (some ⟨wz.heap.size, 0, none⟩) 0 0) 0 [] := by rw [hwb]; exact ea.alloc _
       have ob : Blk wb wa.heap.size 55 #[.string ky, .string vl] := by rw [hwb]; exact Blk.new _ _ _
       have bb : Below wz.heap.size wz wb := by rw [hwb]; exact ba.alloc ba.size _
       go_simp
       rw [← hwb]
       clear hwb
       refine hK.out _ _ (hkS _ (bz.trans (bb.mono bz.size))) (fun hHeld => ?_)
       clear hK K
       try simp only [tkP]
       refine wpAnyH_ready (rs := [4]) (by kernel_rfl) (by simp) ?_
       refine tkC (fun K hK => ?_)
       refine step_append_any (by rfl) (.tmp 55) (.tmp 58) _ (by rfl) wz.heap.size 55 i0 _ 2 32 Tryz.underlying26 hi0' hz0' hz1' hz2' rfl (by omega) (.slice (some ⟨wz.heap.size, 0, none⟩) 0 0) 0 [] (by rfl) eb wz.heap.size XL jj c' (prc (S.take jj)) (by rfl) (RL.below bb) (prc_one _) (by unfold maxLen; omega) (by omega) bb.size ?_
       intro v2 w3 r3 hg2 hat2
       have b3 := bb.grown hg2 bb.size (fun g hg => (eb.lt g hg).1)
       have o3 : Blk w3 wa.heap.size 55 #[.string ky, .string vl] := Blk.grown ob hg2 (by simp [Value.ownBlock]; omega)
       refine hK.out _ _ (hkS _ (bz.trans (b3.mono bz.size))) (fun hHeld => ?_)
       clear hK K
       try simp only [tkP]
       refine wpAnyH_ready (rs := [10]) (by kernel_rfl) (by simp) ?_
       refine tkC (fun K hK => ?_)
       refine step_append_any (by rfl) (.tmp 59) (.tmp 64) _ (by rfl) wz.heap.size 55 i0 _ 2 32 Tryz.underlying26 hi0' hz0' hz1' hz2' rfl (by omega) v2 (0 + jj) ([] ++ prc (S.take jj)) (by rfl) r3 (wa.heap.size + 1) (some ⟨wa.heap.size, 0, none⟩) 1 1 (prc [⟨ky, vl⟩]) (by rfl) (reads_own (n := 1) o3 rfl) (prc_one _) (by unfold maxLen; omega) (by omega) b3.size ?_
       intro v4 w4 hown4 hg4 hat4
       have b4 := b3.grown hg4 b3.size (fun g hg => (r3.lt g hg).1)
       refine hK.out _ _ (hkS _ (bz.trans (b4.mono bz.size))) (fun hHeld => ?_)
       clear hK K
       try simp only [tkP]
       refine wpAnyH_ready (rs := [14]) (by kernel_rfl) (by simp) ?_
       refine tkC (fun K hK => ?_)
       refine step_append_any (by rfl) (.tmp 65) (.tmp 68) _ (by rfl) wz.heap.size 55 i0 _ 2 32 Tryz.underlying26 hi0' hz0' hz1' hz2' rfl (by omega) v4 (0 + jj + 1) ([] ++ prc (S.take jj) ++ prc [⟨ky, vl⟩]) (by rfl) hown4 wz.heap.size XH (m - jj) _ (prc (S.drop jj)) (by rfl) (RH.below b4) (prc_one _) (by unfold maxLen; omega) (by omega) b4.size ?_
       intro v5 w5 hown5 hg5 hat5
       have b5 := b4.grown hg5 b4.size (fun g hg => (hown4.lt g hg).1)
       refine hK.out _ _ (hkS _ (bz.trans (b5.mono bz.size))) (fun hHeld => ?_)
       clear hK K
       try simp only [tkP]
       refine tkA (i := 15) ?_
       try simp only [tkP]
       refine wpAnyH_done (by kernel_rfl) ?_ _
       obtain ⟨A5, c5, rfl, _, _, _⟩ := own_form hown5
       have E1 := Lib.hid (own_low hown5 bz.size)
       rw [List.nil_append, ← prc_append, ← prc_append, List.append_assoc, List.singleton_append, ← HIns.out] at E1
       have E2 := Lib.hid (bz.trans (b5.mono bz.size))
       clear hHeld hown5 hg5 hat5 hown4 hg4 hat4
       go_wp2_with fail
       exact ⟨⟨i + 1, 0 + jj + 1 + (m - jj), A5, c5, by omega, by go_num, rfl, by omega, E1, E2⟩, by simp [intOf]; omega⟩
     ·skip
      obtain ⟨wb, hwb⟩ : ∃ x, x = (wz.alloc (.cells #[.string ky, .string vl] 55)).drew := ⟨_, rfl⟩
      have ob : Blk wb wz.heap.size 55 #[.string ky, .string vl] := by rw [hwb]; exact (Blk.new _ _ _).drew
      have bb : Below wz.heap.size wz wb := by rw [hwb]; exact ((Below.refl _ _).alloc (Nat.le_refl _) _).drew
      have hsb : wz.heap.size < wb.heap.size := by rw [hwb]; simp
      go_simp
      rw [← hwb]
      clear hwb
      refine hK.out _ _ (hkS _ (bz.trans (bb.mono bz.size))) (fun hHeld => ?_)
      clear hK K
      try simp only [tkP]
      refine wpAnyH_ready (rs := [0]) (by kernel_rfl) (by simp) ?_
      refine tkC (fun K hK => ?_)
      obtain ⟨wa, hwa⟩ : ∃ x, x = wb.alloc (.cells #[] 55) := ⟨_, rfl⟩
      have ea : wa.ownsRow wz.heap.size 55 2 (.slice (some ⟨wb.heap.size, 0, none⟩) 0 0) 0 [] := by rw [hwa]; exact World.ownsRow_made (e := 55) (size := 2) wb #[] 0 (Nat.le_of_lt hsb) (by simp [maxLen]) rfl
      have oa : Blk wa wz.heap.size 55 #[.string ky, .string vl] := by rw [hwa]; exact ob.alloc _
      have ba : Below wz.heap.size wz wa := by rw [hwa]; exact bb.alloc bb.size _
      go_simp
      rw [← hwa]
      clear hwa
      refine hK.out _ _ (hkS _ (bz.trans (ba.mono bz.size))) (fun hHeld => ?_)
      clear hK K
      try simp only [tkP]
      refine wpAnyH_ready (rs := [4]) (by kernel_rfl) (by simp) ?_
      refine tkC (fun K hK => ?_)
      refine step_append_any (by rfl) (.tmp 55) (.tmp 58) _ (by rfl) wz.heap.size 55 i0 _ 2 32 Tryz.underlying26 hi0' hz0' hz1' hz2' rfl (by omega) (.slice (some ⟨wb.heap.size, 0, none⟩) 0 0) 0 [] (by rfl) ea wz.heap.size XL jj c' (prc (S.take jj)) (by rfl) (RL.below ba) (prc_one _) (by unfold maxLen; omega) (by omega) ba.size ?_
      intro v2 w3 r3 hg2 hat2
      have b3 := ba.grown hg2 ba.size (fun g hg => (ea.lt g hg).1)
      have o3 : Blk w3 wz.heap.size 55 #[.string ky, .string vl] := Blk.grown oa hg2 (by simp [Value.ownBlock]; omega)
      refine hK.out _ _ (hkS _ (bz.trans (b3.mono bz.size))) (fun hHeld => ?_)
      clear hK K
      try simp only [tkP]
      refine wpAnyH_ready (rs := [10]) (by kernel_rfl) (by simp) ?_
      refine tkC (fun K hK => ?_)
      refine step_append_any (by rfl) (.tmp 59) (.tmp 64) _ (by rfl) wz.heap.size 55 i0 _ 2 32 Tryz.underlying26 hi0' hz0' hz1' hz2' rfl (by omega) v2 (0 + jj) ([] ++ prc (S.take jj)) (by rfl) r3 (wz.heap.size + 1) (some ⟨wz.heap.size, 0, none⟩) 1 1 (prc [⟨ky, vl⟩]) (by rfl) (reads_own (n := 1) o3 rfl) (prc_one _) (by unfold maxLen; omega) (by omega) b3.size ?_
      intro v4 w4 hown4 hg4 hat4
      have b4 := b3.grown hg4 b3.size (fun g hg => (r3.lt g hg).1)
      refine hK.out _ _ (hkS _ (bz.trans (b4.mono bz.size))) (fun hHeld => ?_)
      clear hK K
      try simp only [tkP]
      refine wpAnyH_ready (rs := [14]) (by kernel_rfl) (by simp) ?_
      refine tkC (fun K hK => ?_)
      refine step_append_any (by rfl) (.tmp 65) (.tmp 68) _ (by rfl) wz.heap.size 55 i0 _ 2 32 Tryz.underlying26 hi0' hz0' hz1' hz2' rfl (by omega) v4 (0 + jj + 1) ([] ++ prc (S.take jj) ++ prc [⟨ky, vl⟩]) (by rfl) hown4 wz.heap.size XH (m - jj) _ (prc (S.drop jj)) (by rfl) (RH.below b4) (prc_one _) (by unfold maxLen; omega) (by omega) b4.size ?_
      intro v5 w5 hown5 hg5 hat5
      have b5 := b4.grown hg5 b4.size (fun g hg => (hown4.lt g hg).1)
      refine hK.out _ _ (hkS _ (bz.trans (b5.mono bz.size))) (fun hHeld => ?_)
      clear hK K
      try simp only [tkP]
      refine tkA (i := 15) ?_
      try simp only [tkP]
      refine wpAnyH_done (by kernel_rfl) ?_ _
      obtain ⟨A5, c5, rfl, _, _, _⟩ := own_form hown5
      have E1 := Lib.hid (own_low hown5 bz.size)
      rw [List.nil_append, ← prc_append, ← prc_append, List.append_assoc, List.singleton_append, ← HIns.out] at E1
      have E2 := Lib.hid (bz.trans (b5.mono bz.size))
      clear hHeld hown5 hg5 hat5 hown4 hg4 hat4
      go_wp2_with fail
      exact ⟨⟨i + 1, 0 + jj + 1 + (m - jj), A5, c5, by omega, by go_num, rfl, by omega, E1, E2⟩, by simp [intOf]; omega⟩
    ·have hg : decide ((jj : Int) < (m : Int)) = false := by simp; omega
     go_upto_region 8 with fail
     go_quiet (fail)
     go_upto_region 10 with fail
     obtain ⟨wz, hwz⟩ : ∃ x, x = wq.drewN nq := ⟨_, rfl⟩
     have bz : Below w.heap.size w wz := by rw [hwz]; exact below_drewN HBq.out nq
     have RL : Reads wz wz.heap.size 2 XL jj (prc (S.take jj)) := by rw [hwz]; exact HLo.out
     have RH : Reads wz wz.heap.size 2 XH (m - jj) (prc (S.drop jj)) := by rw [hwz]; exact HHi.out
     rw [← hwz]
     clear hwz p0 p1
     have hkS := fun (wx : World) (b : Below w.heap.size w wx) => (show wx.cell? (ad.add (i * 2)) = some (.string ky) ∧ wx.cell? ⟨(ad.add (i * 2)).block, (ad.add (i * 2)).off + 1, none⟩ = some (.string vl) from ⟨(b.cell (p := ad.add (i * 2)) hab2).trans k0, (b.cell (p := ⟨(ad.add (i * 2)).block, (ad.add (i * 2)).off + 1, none⟩) hab2).trans k1⟩)
     obtain ⟨i0, hi0', hz0', hz1', hz2'⟩ := info_parts infoPrS
     refine wp_region_held_drew (S := fun wx => wx.cell? (ad.add (i * 2)) = some (.string ky) ∧ wx.cell? ⟨(ad.add (i * 2)).block, (ad.add (i * 2)).off + 1, none⟩ = some (.string vl)) (by kernel_rfl) (hkS _ bz.drew) (fun _ => ?_)
     have hHeld := hkS _ bz.drew
     refine tkL (i := 1) (v := ?_) ?_ (by exact hHeld) ?_
     rotate_left
     ·intro wz hSz; (try dsimp only at hSz); obtain ⟨z0, z1⟩ := hSz; go_simp; (try with_reducible rfl)
     try simp only [tkP]
     refine tkL (i := 2) (v := ?_) ?_ (by exact hHeld) ?_
     rotate_left
     ·intro wz hSz; (try dsimp only at hSz); obtain ⟨z0, z1⟩ := hSz; go_simp; (try with_reducible rfl)
     try simp only [tkP]
     refine tkL (i := 3) (v := ?_) ?_ (by exact hHeld) ?_
     rotate_left
     ·intro wz hSz; (try dsimp only at hSz); obtain ⟨z0, z1⟩ := hSz; go_simp; (try with_reducible rfl)
     try simp only [tkP]
     refine tkL (i := 5) (v := ?_) ?_ (by exact hHeld) ?_
     rotate_left
     ·intro wz hSz; (try dsimp only at hSz); obtain ⟨z0, z1⟩ := hSz; go_simp; (try with_reducible rfl)
     try simp only [tkP]
     refine tkL (i := 6) (v := ?_) ?_ (by exact hHeld) ?_
     rotate_left
     ·intro wz hSz; (try dsimp only at hSz); obtain ⟨z0, z1⟩ := hSz; go_simp; (try with_reducible rfl)
     try simp only [tkP]
     refine tkL (i := 7) (v := ?_) ?_ (by exact hHeld) ?_
     rotate_left
     ·intro wz hSz; (try dsimp only at hSz); obtain ⟨z0, z1⟩ := hSz; go_simp; (try with_reducible rfl)
     try simp only [tkP]
     refine tkL (i := 8) (v := ?_) ?_ (by exact hHeld) ?_
     rotate_left
     ·intro wz hSz; (try dsimp only at hSz); obtain ⟨z0, z1⟩ := hSz; go_simp; (try with_reducible rfl)
     try simp only [tkP]
     refine tkL (i := 11) (v := ?_) ?_ (by exact hHeld) ?_
     rotate_left
     ·intro wz hSz; (try dsimp only at hSz); obtain ⟨z0, z1⟩ := hSz; go_simp; (try with_reducible rfl)
     try simp only [tkP]
     refine tkL (i := 12) (v := ?_) ?_ (by exact hHeld) ?_
     rotate_left
     ·intro wz hSz; (try dsimp only at hSz); obtain ⟨z0, z1⟩ := hSz; go_simp; (try with_reducible rfl)
     try simp only [tkP]
     refine tkL (i := 13) (v := ?_) ?_ (by exact hHeld) ?_
     rotate_left
     ·intro wz hSz; (try dsimp only at hSz); obtain ⟨z0, z1⟩ := hSz; go_simp; (try with_reducible rfl)
     try simp only [tkP]
     refine wpAnyH_ready (rs := [0, 9]) (by kernel_rfl) (by simp) ?_
     refine AllReadyH.consL rfl (fun K hK => ?_) (AllReadyH.consL rfl (fun K hK => ?_) AllReadyH.nil)
     ·skip
      obtain ⟨wa, hwa⟩ : ∃ x, x = (wz.alloc (.cells #[] 55)).drew := ⟨_, rfl⟩
      have ea : wa.ownsRow wz.heap.size 55 2 (.slice (some ⟨wz.heap.size, 0, none⟩) 0 0) 0 [] := by rw [hwa]; exact (World.ownsRow_made (e := 55) (size := 2) wz #[] 0 (Nat.le_refl wz.heap.size) (by simp [maxLen]) rfl).drew
      have ba : Below wz.heap.size wz wa := by rw [hwa]; exact ((Below.refl _ _).alloc (Nat.le_refl _) _).drew
      have hsa : wz.heap.size < wa.heap.size := by rw [hwa]; simp
      go_simp
      rw [← hwa]
      clear hwa
      refine hK.out _ _ (hkS _ (bz.trans (ba.mono bz.size))) (fun hHeld => ?_)
      clear hK K
      try simp only [tkP]
      refine wpAnyH_ready (rs := [4, 9]) (by kernel_rfl) (by simp) ?_
      refine AllReadyH.consL rfl (fun K hK => ?_) (AllReadyH.consL rfl (fun K hK => ?_) AllReadyH.nil)
      ·skip
       refine step_append_any (by rfl) (.tmp 55) (.tmp 58) _ (by rfl) wz.heap.size 55 i0 _ 2 32 Tryz.underlying26 hi0' hz0' hz1' hz2' rfl (by omega) (.slice (some ⟨wz.heap.size, 0, none⟩) 0 0) 0 [] (by rfl) ea wz.heap.size XL jj c' (prc (S.take jj)) (by rfl) (RL.below ba) (prc_one _) (by unfold maxLen; omega) (by omega) ba.size ?_
       intro v2 w2 hown2 hg2 hat2
       have b2 := ba.grown hg2 ba.size (fun g hg => (ea.lt g hg).1)
       refine hK.out _ _ (hkS _ (bz.trans (b2.mono bz.size))) (fun hHeld => ?_)
       clear hK K
       try simp only [tkP]
       refine wpAnyH_ready (rs := [9]) (by kernel_rfl) (by simp) ?_
       refine tkC (fun K hK => ?_)
       obtain ⟨w3, hw3⟩ : ∃ x, x = w2.alloc (.cells #[.string ky, .string vl] 55) := ⟨_, rfl⟩
       have r3 : w3.ownsRow wz.heap.size 55 2 v2 (0 + jj) ([] ++ prc (S.take jj)) := by rw [hw3]; exact hown2.alloc _
       have o3 : Blk w3 w2.heap.size 55 #[.string ky, .string vl] := by rw [hw3]; exact Blk.new _ _ _
       have b3 : Below wz.heap.size wz w3 := by rw [hw3]; exact b2.alloc b2.size _
       go_simp
       rw [← hw3]
       clear hw3
       refine hK.out _ _ (hkS _ (bz.trans (b3.mono bz.size))) (fun hHeld => ?_)
       clear hK K
       try simp only [tkP]
       refine wpAnyH_ready (rs := [10]) (by kernel_rfl) (by simp) ?_
       refine tkC (fun K hK => ?_)
       refine step_append_any (by rfl) (.tmp 59) (.tmp 64) _ (by rfl) wz.heap.size 55 i0 _ 2 32 Tryz.underlying26 hi0' hz0' hz1' hz2' rfl (by omega) v2 (0 + jj) ([] ++ prc (S.take jj)) (by rfl) r3 (w2.heap.size + 1) (some ⟨w2.heap.size, 0, none⟩) 1 1 (prc [⟨ky, vl⟩]) (by rfl) (reads_own (n := 1) o3 rfl) (prc_one _) (by unfold maxLen; omega) (by omega) b3.size ?_
       intro v4 w4 hown4 hg4 hat4
       have b4 := b3.grown hg4 b3.size (fun g hg => (r3.lt g hg).1)
       refine hK.out _ _ (hkS _ (bz.trans (b4.mono bz.size))) (fun hHeld => ?_)
       clear hK K
       try simp only [tkP]
       refine wpAnyH_ready (rs := [14]) (by kernel_rfl) (by simp) ?_
       refine tkC (fun K hK => ?_)
       refine step_append_any (by rfl) (.tmp 65) (.tmp 68) _ (by rfl) wz.heap.size 55 i0 _ 2 32 Tryz.underlying26 hi0' hz0' hz1' hz2' rfl (by omega) v4 (0 + jj + 1) ([] ++ prc (S.take jj) ++ prc [⟨ky, vl⟩]) (by rfl) hown4 wz.heap.size XH (m - jj) _ (prc (S.drop jj)) (by rfl) (RH.below b4) (prc_one _) (by unfold maxLen; omega) (by omega) b4.size ?_
       intro v5 w5 hown5 hg5 hat5
       have b5 := b4.grown hg5 b4.size (fun g hg => (hown4.lt g hg).1)
       refine hK.out _ _ (hkS _ (bz.trans (b5.mono bz.size))) (fun hHeld => ?_)
       clear hK K
       try simp only [tkP]
       refine tkA (i := 15) ?_
       try simp only [tkP]
       refine wpAnyH_done (by kernel_rfl) ?_ _
       obtain ⟨A5, c5, rfl, _, _, _⟩ := own_form hown5
       have E1 := Lib.hid (own_low hown5 bz.size)
       rw [List.nil_append, ← prc_append, ← prc_append, List.append_assoc, List.singleton_append, ← HIns.out] at E1
       have E2 := Lib.hid (bz.trans (b5.mono bz.size))
       clear hHeld hown5 hg5 hat5 hown4 hg4 hat4
       go_wp2_with fail
       exact ⟨⟨i + 1, 0 + jj + 1 + (m - jj), A5, c5, by omega, by go_num, rfl, by omega, E1, E2⟩, by simp [intOf]; omega⟩
      ·skip
       obtain ⟨wb, hwb⟩ : ∃ x, x = wa.alloc (.cells #[.string ky, .string vl] 55) := ⟨_, rfl⟩
       have eb : wb.ownsRow wz.heap.size 55 2 (.slice (some ⟨wz.heap.size, 0, none⟩) 0 0) 0 [] := by rw [hwb]; exact ea.alloc _
       have ob : Blk wb wa.heap.size 55 #[.string ky, .string vl] := by rw [hwb]; exact Blk.new _ _ _
       have bb : Below wz.heap.size wz wb := by rw [hwb]; exact ba.alloc ba.size _
       go_simp
       rw [← hwb]
       clear hwb
       refine hK.out _ _ (hkS _ (bz.trans (bb.mono bz.size))) (fun hHeld => ?_)
       clear hK K
       try simp only [tkP]
       refine wpAnyH_ready (rs := [4]) (by kernel_rfl) (by simp) ?_
       refine tkC (fun K hK => ?_)
       refine step_append_any (by rfl) (.tmp 55) (.tmp 58) _ (by rfl) wz.heap.size 55 i0 _ 2 32 Tryz.underlying26 hi0' hz0' hz1' hz2' rfl (by omega) (.slice (some ⟨wz.heap.size, 0, none⟩) 0 0) 0 [] (by rfl) eb wz.heap.size XL jj c' (prc (S.take jj)) (by rfl) (RL.below bb) (prc_one _) (by unfold maxLen; omega) (by omega) bb.size ?_
       intro v2 w3 r3 hg2 hat2
       have b3 := bb.grown hg2 bb.size (fun g hg => (eb.lt g hg).1)
       have o3 : Blk w3 wa.heap.size 55 #[.string ky, .string vl] := Blk.grown ob hg2 (by simp [Value.ownBlock]; omega)
       refine hK.out _ _ (hkS _ (bz.trans (b3.mono bz.size))) (fun hHeld => ?_)
       clear hK K
       try simp only [tkP]
       refine wpAnyH_ready (rs := [10]) (by kernel_rfl) (by simp) ?_
       refine tkC (fun K hK => ?_)
       refine step_append_any (by rfl) (.tmp 59) (.tmp 64) _ (by rfl) wz.heap.size 55 i0 _ 2 32 Tryz.underlying26 hi0' hz0' hz1' hz2' rfl (by omega) v2 (0 + jj) ([] ++ prc (S.take jj)) (by rfl) r3 (wa.heap.size + 1) (some ⟨wa.heap.size, 0, none⟩) 1 1 (prc [⟨ky, vl⟩]) (by rfl) (reads_own (n := 1) o3 rfl) (prc_one _) (by unfold maxLen; omega) (by omega) b3.size ?_
       intro v4 w4 hown4 hg4 hat4
       have b4 := b3.grown hg4 b3.size (fun g hg => (r3.lt g hg).1)
       refine hK.out _ _ (hkS _ (bz.trans (b4.mono bz.size))) (fun hHeld => ?_)
       clear hK K
       try simp only [tkP]
       refine wpAnyH_ready (rs := [14]) (by kernel_rfl) (by simp) ?_
       refine tkC (fun K hK => ?_)
       refine step_append_any (by rfl) (.tmp 65) (.tmp 68) _ (by rfl) wz.heap.size 55 i0 _ 2 32 Tryz.underlying26 hi0' hz0' hz1' hz2' rfl (by omega) v4 (0 + jj + 1) ([] ++ prc (S.take jj) ++ prc [⟨ky, vl⟩]) (by rfl) hown4 wz.heap.size XH (m - jj) _ (prc (S.drop jj)) (by rfl) (RH.below b4) (prc_one _) (by unfold maxLen; omega) (by omega) b4.size ?_
       intro v5 w5 hown5 hg5 hat5
       have b5 := b4.grown hg5 b4.size (fun g hg => (hown4.lt g hg).1)
       refine hK.out _ _ (hkS _ (bz.trans (b5.mono bz.size))) (fun hHeld => ?_)
       clear hK K
       try simp only [tkP]
       refine tkA (i := 15) ?_
       try simp only [tkP]
       refine wpAnyH_done (by kernel_rfl) ?_ _
       obtain ⟨A5, c5, rfl, _, _, _⟩ := own_form hown5
       have E1 := Lib.hid (own_low hown5 bz.size)
       rw [List.nil_append, ← prc_append, ← prc_append, List.append_assoc, List.singleton_append, ← HIns.out] at E1
       have E2 := Lib.hid (bz.trans (b5.mono bz.size))
       clear hHeld hown5 hg5 hat5 hown4 hg4 hat4
       go_wp2_with fail
       exact ⟨⟨i + 1, 0 + jj + 1 + (m - jj), A5, c5, by omega, by go_num, rfl, by omega, E1, E2⟩, by simp [intOf]; omega⟩
     ·skip
      obtain ⟨wb, hwb⟩ : ∃ x, x = (wz.alloc (.cells #[.string ky, .string vl] 55)).drew := ⟨_, rfl⟩
      have ob : Blk wb wz.heap.size 55 #[.string ky, .string vl] := by rw [hwb]; exact (Blk.new _ _ _).drew
      have bb : Below wz.heap.size wz wb := by rw [hwb]; exact ((Below.refl _ _).alloc (Nat.le_refl _) _).drew
      have hsb : wz.heap.size < wb.heap.size := by rw [hwb]; simp
      go_simp
      rw [← hwb]
      clear hwb
      refine hK.out _ _ (hkS _ (bz.trans (bb.mono bz.size))) (fun hHeld => ?_)
      clear hK K
      try simp only [tkP]
      refine wpAnyH_ready (rs := [0]) (by kernel_rfl) (by simp) ?_
      refine tkC (fun K hK => ?_)
      obtain ⟨wa, hwa⟩ : ∃ x, x = wb.alloc (.cells #[] 55) := ⟨_, rfl⟩
      have ea : wa.ownsRow wz.heap.size 55 2 (.slice (some ⟨wb.heap.size, 0, none⟩) 0 0) 0 [] := by rw [hwa]; exact World.ownsRow_made (e := 55) (size := 2) wb #[] 0 (Nat.le_of_lt hsb) (by simp [maxLen]) rfl
      have oa : Blk wa wz.heap.size 55 #[.string ky, .string vl] := by rw [hwa]; exact ob.alloc _
      have ba : Below wz.heap.size wz wa := by rw [hwa]; exact bb.alloc bb.size _
      go_simp
      rw [← hwa]
      clear hwa
      refine hK.out _ _ (hkS _ (bz.trans (ba.mono bz.size))) (fun hHeld => ?_)
      clear hK K
      try simp only [tkP]
      refine wpAnyH_ready (rs := [4]) (by kernel_rfl) (by simp) ?_
      refine tkC (fun K hK => ?_)
      refine step_append_any (by rfl) (.tmp 55) (.tmp 58) _ (by rfl) wz.heap.size 55 i0 _ 2 32 Tryz.underlying26 hi0' hz0' hz1' hz2' rfl (by omega) (.slice (some ⟨wb.heap.size, 0, none⟩) 0 0) 0 [] (by rfl) ea wz.heap.size XL jj c' (prc (S.take jj)) (by rfl) (RL.below ba) (prc_one _) (by unfold maxLen; omega) (by omega) ba.size ?_
      intro v2 w3 r3 hg2 hat2
      have b3 := ba.grown hg2 ba.size (fun g hg => (ea.lt g hg).1)
      have o3 : Blk w3 wz.heap.size 55 #[.string ky, .string vl] := Blk.grown oa hg2 (by simp [Value.ownBlock]; omega)
      refine hK.out _ _ (hkS _ (bz.trans (b3.mono bz.size))) (fun hHeld => ?_)
      clear hK K
      try simp only [tkP]
      refine wpAnyH_ready (rs := [10]) (by kernel_rfl) (by simp) ?_
      refine tkC (fun K hK => ?_)
      refine step_append_any (by rfl) (.tmp 59) (.tmp 64) _ (by rfl) wz.heap.size 55 i0 _ 2 32 Tryz.underlying26 hi0' hz0' hz1' hz2' rfl (by omega) v2 (0 + jj) ([] ++ prc (S.take jj)) (by rfl) r3 (wz.heap.size + 1) (some ⟨wz.heap.size, 0, none⟩) 1 1 (prc [⟨ky, vl⟩]) (by rfl) (reads_own (n := 1) o3 rfl) (prc_one _) (by unfold maxLen; omega) (by omega) b3.size ?_
      intro v4 w4 hown4 hg4 hat4
      have b4 := b3.grown hg4 b3.size (fun g hg => (r3.lt g hg).1)
      refine hK.out _ _ (hkS _ (bz.trans (b4.mono bz.size))) (fun hHeld => ?_)
      clear hK K
      try simp only [tkP]
      refine wpAnyH_ready (rs := [14]) (by kernel_rfl) (by simp) ?_
      refine tkC (fun K hK => ?_)
      refine step_append_any (by rfl) (.tmp 65) (.tmp 68) _ (by rfl) wz.heap.size 55 i0 _ 2 32 Tryz.underlying26 hi0' hz0' hz1' hz2' rfl (by omega) v4 (0 + jj + 1) ([] ++ prc (S.take jj) ++ prc [⟨ky, vl⟩]) (by rfl) hown4 wz.heap.size XH (m - jj) _ (prc (S.drop jj)) (by rfl) (RH.below b4) (prc_one _) (by unfold maxLen; omega) (by omega) b4.size ?_
      intro v5 w5 hown5 hg5 hat5
      have b5 := b4.grown hg5 b4.size (fun g hg => (hown4.lt g hg).1)
      refine hK.out _ _ (hkS _ (bz.trans (b5.mono bz.size))) (fun hHeld => ?_)
      clear hK K
      try simp only [tkP]
      refine tkA (i := 15) ?_
      try simp only [tkP]
      refine wpAnyH_done (by kernel_rfl) ?_ _
      obtain ⟨A5, c5, rfl, _, _, _⟩ := own_form hown5
      have E1 := Lib.hid (own_low hown5 bz.size)
      rw [List.nil_append, ← prc_append, ← prc_append, List.append_assoc, List.singleton_append, ← HIns.out] at E1
      have E2 := Lib.hid (bz.trans (b5.mono bz.size))
      clear hHeld hown5 hg5 hat5 hown4 hg4 hat4
      go_wp2_with fail
      exact ⟨⟨i + 1, 0 + jj + 1 + (m - jj), A5, c5, by omega, by go_num, rfl, by omega, E1, E2⟩, by simp [intOf]; omega⟩
end Go.Proofs.YtmmjckokjmpfpaaGreat

