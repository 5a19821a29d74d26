/-
  The walk of the statement FrameReads: from every start, at every argument, it returns true and changes no block that was there before.
-/
import Derived.Test.YtdfkkebjdjmeiaaFrameTexts
import Derived.Test.YtdfkkebjdjmeiaaKept
import Derived.Deep.RegionWith
import Derived.Deep.RegionHeld3
import Derived.Deep.DrawnRows
import Derived.Lib.MinMax
namespace Go.Proofs.Ytdfkkebjdjmeiaa
open Go.RowKit
open Go.Lib
set_option linter.unusedVariables false
set_option linter.unusedSimpArgs false
attribute [local go_sem ↓] Go.wp_at_zero Go.wp_at_succ

theorem infoPg3 : (Try.prog.info? 29).map (fun i => (i.zero, i.size, i.bytes)) = some (some (.agg #[.int .i64 0, .int .i64 0, .int .u32 0, .int .u32 0, .int .u64 0, .string ByteArray.empty]), 6, 48) := by kernel_rfl
theorem reads6 (w : World) (cs : Array Value) (t : TypeId) (fr : Nat × Nat) (h : cs.size = 6) : Reads (w.alloc (.cells cs t fr)) (w.heap.size + 1) 6 (some ⟨w.heap.size, 0, none⟩) 1 cs.toList := by
  refine ⟨by simp [h], fun _ => ⟨_, rfl, Nat.lt_succ_self _, fun j u hu => ?_⟩⟩
  have e : (⟨w.heap.size, 0, none⟩ : Addr).add j = ⟨w.heap.size, j, none⟩ := by unfold Addr.add; split <;> simp_all
  rw [e, World.cell?_alloc_mark]
  simpa using hu
theorem pgCells_one (tx : Nat) (l : List ByteArray) (k : Nat) : ∀ u ∈ pgCells tx l k, u.oneCell' = true := by
  intro u hu
  simp only [pgCells, List.mem_cons, List.not_mem_nil, or_false] at hu
  rcases hu with rfl | rfl | rfl | rfl | rfl | rfl <;> rfl
theorem page_eqr (a0 a1 : Int) (a2 a3 a4 : Nat) (a5 : ByteArray) (w : World) : (binOp .eql 29 (.agg #[.int .i64 a0, .int .i64 a1, .int .u32 a2, .int .u32 a3, .int .u64 a4, .string a5]) (.agg #[.int .i64 a0, .int .i64 a1, .int .u32 a2, .int .u32 a3, .int .u64 a4, .string a5])).run Try.prog w = .ok (.bool true) w := by
  simp [go_sem]
/-- The cells of an element of six. -/
theorem elem_cells {w : World} {base k c nn g : Nat} {ad : Addr} {e : TypeId} {cells : List Value} {a0 a1 a2 a3 a4 a5 : Value} (h : w.ownsRow base e 6 (.slice (some ad) k c) k cells) (had : ad = ⟨g, 0, none⟩)
    (hc : ∀ i, i < 6 → cells[nn * 6 + i]? = (#[a0, a1, a2, a3, a4, a5].toList)[i]?) :
    w.cell? (ad.add (nn * 6)) = some a0 ∧ w.cell? ⟨(ad.add (nn * 6)).block, (ad.add (nn * 6)).off + 1, none⟩ = some a1 ∧ w.cell? ⟨(ad.add (nn * 6)).block, (ad.add (nn * 6)).off + 2, none⟩ = some a2 ∧ w.cell? ⟨(ad.add (nn * 6)).block, (ad.add (nn * 6)).off + 3, none⟩ = some a3 ∧ w.cell? ⟨(ad.add (nn * 6)).block, (ad.add (nn * 6)).off + 4, none⟩ = some a4 ∧ w.cell? ⟨(ad.add (nn * 6)).block, (ad.add (nn * 6)).off + 5, none⟩ = some a5 := by
  subst had
  have e : ∀ j, (⟨g, 0, none⟩ : Addr).add j = ⟨g, j, none⟩ := fun j => by unfold Addr.add; split <;> simp_all
  have hx : ∀ i u, cells[nn * 6 + i]? = some u → w.cell? ⟨g, nn * 6 + i, none⟩ = some u := fun i u hu => by
    have h3 := h.cells (g := g) rfl (nn * 6 + i) u hu
    rw [e] at h3
    exact h3
  rw [e]
  exact ⟨hx 0 a0 (hc 0 (by omega)), hx 1 a1 (hc 1 (by omega)), hx 2 a2 (hc 2 (by omega)), hx 3 a3 (hc 3 (by omega)), hx 4 a4 (hc 4 (by omega)), hx 5 a5 (hc 5 (by omega))⟩
/-- What a round of the loop leaves. -/
def RoundIn (w : World) (B tx : Nat) (l : List ByteArray) (k : Nat) (A : Option Addr) (c : Nat) (wr : World) : Prop :=
  wr.ownsRow B 29 6 (.slice A k c) k (cellsOf tx l k) ∧ Below w.heap.size w wr
theorem conv_row (W : World) (T : ByteArray) (cap : Nat) : Reads ((W.alloc (.cells (bytesRow T cap) 5 ((bytesRow T cap).size, (bytesRow T cap).size + 1))).drew.drew) ((W.alloc (.cells (bytesRow T cap) 5 ((bytesRow T cap).size, (bytesRow T cap).size + 1))).drew.drew).heap.size 1 (some ⟨W.heap.size, 0, none⟩) T.size (bcells T.data.toList) := by
  have h := (MRow.of_bytes W 5 T cap).reads
  rw [size_list] at h
  exact h

set_option maxHeartbeats 6400000 in
set_option maxRecDepth 100000 in
theorem freads_main (A : Option Addr) (n c : Nat) (l : List ByteArray) (tx nn : Nat) (rest : ByteArray) (w : World) (hl : Texts w w.heap.size A n l) (hn : n ≤ 10) (hr : rest.size ≤ 127) (ht : tx ≤ 4611686018427387904) (hnn : nn < 4294967296) :
    Calls Try.prog 5 #[.slice A n c, .int .u64 tx, .int .u32 nn, .string rest] w fun e w' => e = .returned (.bool true) ∧ Below w.heap.size w w' := by
  obtain ⟨i0, hi0, hz0, hz1, hz2⟩ := info_parts infoPg3
  have g1 : decide ((10 : Int) < (n : Int)) = false := by simp; omega
  have g2 : decide ((127 : Int) < (rest.size : Int)) = false := by simp; omega
  have g3 : decide ((4611686018427387904 : Int) < (tx : Int)) = false := by simp; omega
  have HL := Lib.hid hl
  clear hl
  go_enter Try.func5, Try.ntmps5
  go_wp2_with fail
  refine (lives_any _).mono ?_
  rintro e w1 ⟨rfl, hb⟩
  have HB := Lib.hid hb
  clear hb
  have hli := light_any c ((HL.out.below HB.out)) (by unfold maxLen; omega)
  go_wp2_with fail
  refine hli.mono ?_
  rintro e w' ⟨⟨b, rfl⟩, rfl⟩
  clear hli
  rcases b with _ | _
  · go_wp2_with fail
    go_ret
    exact ⟨rfl, HB.out⟩
  go_wp2_with fail
  go_loopw [9, 10, 11] (fun img lst i wr => ∃ (k : Nat) (A' : Option Addr) (c' : Nat), k ≤ n ∧ i = .int .i64 k ∧ img = .string (imgOf tx l k) ∧ lst = .slice A' k c' ∧ Hid (RoundIn w w.heap.size tx l k A' c' wr)) (fun _ _ i _ => n - (RowKit.intOf i).toNat)
  case atStart => exact ⟨0, none, 0, by omega, rfl, rfl, rfl, World.ownsRow_nil _ _ _ _, HB.out⟩
  case round =>
    obtain ⟨k, A', c', hk, rfl, rfl, rfl, HR⟩ := hrel
    by_cases hlt : k < n
    · obtain ⟨ad, s, rfl, hab, hat, hc, hs⟩ := text_at HL.out hlt
      obtain ⟨m, hm⟩ : ∃ m : Nat, m = min s.size 104 := ⟨_, rfl⟩
      have am : min (s.size : Int) 104 = (m : Int) := by omega
      obtain ⟨T, hT⟩ : ∃ T : ByteArray, s.extract 0 m = T := ⟨_, rfl⟩
      have hTs : T.size ≤ 104 := by rw [← hT, ByteArray.size_extract]; omega
      have hms : (m : Int) ≤ s.size := by omega
      have hm0 : (0 : Int) ≤ m := by omega
      have hnth : nth l k = s := by unfold nth; rw [List.getD, hat]; rfl
      obtain ⟨bk, hbk⟩ : ∃ bk, bk = bodyOf (nth l k) := ⟨_, rfl⟩
      have hbody : (⟨(T.data.toList ++ List.replicate (128 - 24 - T.size) 0).toArray⟩ : ByteArray) = bk := by
        rw [hbk, hnth]
        apply bytes_ext
        rw [bodyOf_list]
        show T.data.toList ++ List.replicate (128 - 24 - T.size) 0 = _
        have e1 : T.data.toList = s.data.toList.take 104 := by
          rw [← hT, Lib.extract_data, List.drop_zero, Nat.sub_zero, hm]
          rcases Nat.le_total s.size 104 with h | h
          · rw [Nat.min_eq_left h, List.take_of_length_le (by rw [size_list]; exact Nat.le_refl _), List.take_of_length_le (by rw [size_list]; exact h)]
          · rw [Nat.min_eq_right h]
        rw [e1, show T.size = min s.size 104 by rw [← hT, ByteArray.size_extract]; omega]
      have HBD : ∀ (W : World) (cap : Nat), Calls Try.prog 10 #[.int .i64 128, .slice (some ⟨W.heap.size, 0, none⟩) T.size cap] ((W.alloc (.cells (bytesRow T cap) 5 ((bytesRow T cap).size, (bytesRow T cap).size + 1))).drew.drew) fun e w' => e = .returned (.tuple #[.string bk, .int .i64 0]) ∧ Below ((W.alloc (.cells (bytesRow T cap) 5 ((bytesRow T cap).size, (bytesRow T cap).size + 1))).drew.drew).heap.size ((W.alloc (.cells (bytesRow T cap) 5 ((bytesRow T cap).size, (bytesRow T cap).size + 1))).drew.drew) w' := fun W cap => by
        rw [← hbody]
        exact fbody_ok 128 _ T.size cap T.data.toList _ (by decide) (conv_row W T cap) (by omega)
      have hcv0 := fun w => run_bytes_of_string (P := Try.prog) w 9 34 5 T Try.underlying9 Try.underlying34 Try.underlying5
      have b0 : (0 : Int) ≤ k := by omega
      have b1 : (k : Int) < n := by omega
      have HRB := Lib.hid HR.out.2
      have hcr := cell_in hc HRB.out hab
      have hw32 : IntKind.u32.wrap (k : Int) = (k : Int) := by rw [IntKind.wrap_u32]; omega
      have HPT : ∀ w : World, Calls Try.prog 7 #[.int .i64 128, .agg #[.int .i64 4, .int .i64 k, .int .u32 k, .int .u32 0, .int .u64 tx, .string bk]] w fun e w' => e = .returned (.tuple #[.string (pgAt tx l k), .int .i64 0]) ∧ Below w.heap.size w w' := fun w => by
        rw [hbk]; exact fput_yes (128 : Nat) (4 : Nat) k k 0 tx (bodyOf (nth l k)) w (may_at tx l k (by omega) ht)
      have hcat : ¬ (9223372036854775807 < (imgOf tx l k).size + (pgAt tx l k).size) := by rw [imgOf_size, pgAt_size]; omega
      have hpc : pgCells tx l k = [.int .i64 4, .int .i64 k, .int .u32 k, .int .u32 0, .int .u64 tx, .string bk] := by rw [hbk]; rfl
      have HPC := Lib.hid hpc
      clear hpc
      have HBK := Lib.hid hbk
      clear hbody hnth hTs hm hs hat hbk
      go_wp2_with fail
      go_region_with (first
        | (go_at_call 10
           refine (HBD _ _).mono ?_
           rintro e w3 ⟨rfl, hb3⟩
           have HX := (HRB.out.alloc HRB.out.size (.cells (bytesRow T (grownCap wr.drew T.size 0 5)) 5 ((bytesRow T (grownCap wr.drew T.size 0 5)).size, (bytesRow T (grownCap wr.drew T.size 0 5)).size + 1))).drew.drew
           have HB3 := Lib.hid (HX.trans (hb3.mono HX.size))
           have HW3 := Lib.hid ((Kept.of_new (F := fun _ => False) hb3).own ((HR.out.1.alloc _).drew.drew) (fun _ _ h => h))
           clear HX hb3))
      all_goals clear hcr hcv0 HBD hc am hms hm0
      all_goals go_wp2_with fail
      all_goals refine (HPT _).mono ?_
      all_goals rintro e w4 ⟨rfl, hb4⟩
      all_goals have HX := HB3.out.alloc HB3.out.size (.cells #[.int .i64 4, .int .i64 k, .int .u32 k, .int .u32 0, .int .u64 tx, .string bk] 29)
      all_goals have HB4 := Lib.hid (HX.trans (hb4.mono HX.size))
      all_goals have P4 := Lib.hid ((Blk.new w3 29 #[.int .i64 4, .int .i64 k, .int .u32 k, .int .u32 0, .int .u64 tx, .string bk]).below hb4 (by simp))
      all_goals have HW4 := Lib.hid ((Kept.of_new (F := fun _ => False) hb4).own (HW3.out.alloc _) (fun _ _ h => h))
      all_goals clear HX hb4
      all_goals have k0 := P4.out.cell 0
      all_goals have k1 := P4.out.cell 1
      all_goals have k2 := P4.out.cell 2
      all_goals have k3 := P4.out.cell 3
      all_goals have k4 := P4.out.cell 4
      all_goals have k5 := P4.out.cell 5
      all_goals simp at k0 k1 k2 k3 k4 k5
      all_goals go_wp2_with (first
        | (at_builtin
           refine wpList_append_any _ rfl (.tmp 81) (.tmp 83) _ rfl w.heap.size 29 i0 _ 6 48 Try.underlying46 hi0 hz0 hz1 hz2 rfl (by omega) _ k _ rfl (HW4.out.alloc _) (w4.heap.size + 1) (some ⟨w4.heap.size, 0, none⟩) 1 1 _ rfl (reads6 w4 #[.int .i64 4, .int .i64 k, .int .u32 k, .int .u32 0, .int .u64 tx, .string bk] 29 (0, 0) rfl) (by have := pgCells_one tx l k; rw [HPC.out] at this; exact this) (by unfold maxLen; omega) (by omega) (by have := HB4.out.size; simp; omega) ?_
           intro v5 w5 hown5 hg5 hat5))
      all_goals (
        have hown6 : w5.ownsRow w.heap.size 29 6 v5 (k + 1) (cellsOf tx l (k + 1)) := (by rw [cellsOf, HPC.out]; exact hown5)
        have HB5 := (HB4.out.alloc HB4.out.size (.cells #[.int .i64 4, .int .i64 k, .int .u32 k, .int .u32 0, .int .u64 tx, .string bk] 29)).grown hg5 (by have := HB4.out.size; simp; omega) (fun g hg => (HW4.out.lt g hg).1)
        obtain ⟨A6, c6, rfl, _⟩ := own_form hown6
        refine ⟨⟨k + 1, A6, c6, by omega, by go_num, rfl, rfl, hown6, HB5⟩, ?_⟩
        simp [RowKit.intOf]
        omega)
    · obtain rfl : k = n := by omega
      have hims := imgOf_size tx l k
      have hcat2 : ¬ (9223372036854775807 < (imgOf tx l k).size + rest.size) := by omega
      obtain ⟨IM, hIM⟩ : ∃ IM, imgOf tx l k ++ rest = IM := ⟨_, rfl⟩
      have hIs : IM.size = 128 * k + rest.size := by rw [← hIM, ByteArray.size_append, hims]
      have hIq : IM.size / 128 = k := by omega
      have hIl : IM.size ≤ maxLen := by unfold maxLen; omega
      have HPG : ∀ w : World, Calls Try.prog 14 #[.int .i64 128, .string IM] w fun e w' => e = .returned (.int .i64 (k : Int)) ∧ w = w' := fun w => by
        have := fpages_yes 128 IM w (by decide) hIl
        rw [hIq] at this
        exact this
      have wu1 := u64_nat nn (by omega)
      have wu2 := u64_nat k (by omega)
      have HRW := Lib.hid HR.out.1
      have HRB := Lib.hid HR.out.2
      by_cases hin : nn < k
      · have hd1 : decide ((nn : Int) < (k : Int)) = true := by simp; omega
        have hd2 : decide (nn < k) = true := by simp; omega
        obtain ⟨bn, hbn⟩ : ∃ bn, bn = bodyOf (nth l nn) := ⟨_, rfl⟩
        obtain ⟨pn, hpn⟩ : ∃ pn, pn = pgAt tx l nn := ⟨_, rfl⟩
        have hex : IM.extract (nn * 128) (nn * 128 + 128) = pn := by rw [← hIM, hpn]; exact img_page tx l k nn rest hin
        have hex2 : IM.extract (128 * nn) (128 * nn + 128) = pn := by rw [Nat.mul_comm 128 nn]; exact hex
        have HGT : ∀ w : World, Calls Try.prog 9 #[.int .i64 128, .int .u32 nn, .string pn] w fun e w' => e = .returned (.tuple #[.agg #[.int .i64 4, .int .i64 nn, .int .u32 nn, .int .u32 0, .int .u64 tx, .string bn], .int .i64 0]) ∧ Below w.heap.size w w' := fun w => by
          rw [hpn, hbn]; exact get_back (128 : Nat) (4 : Nat) nn nn 0 tx (bodyOf (nth l nn)) w (may_at tx l nn (by omega) ht)
        have HAT : ∀ w : World, Calls Try.prog 11 #[.int .i64 128, .string IM, .int .u32 nn] w fun e w' => e = .returned (.tuple #[.string pn, .bool true]) ∧ w = w' := fun w => by
          have := at_yes 128 nn IM w (by decide) hIl (by rw [hIq]; exact hin)
          rw [hex] at this
          exact this
        have HRD : ∀ w : World, Calls Try.prog 13 #[.int .i64 128, .string IM, .int .u32 nn] w fun e w' => e = .returned (.tuple #[.agg #[.int .i64 4, .int .i64 nn, .int .u32 nn, .int .u32 0, .int .u64 tx, .string bn], .int .i64 0]) ∧ Below w.heap.size w w' := fun w =>
          fread_get 128 nn IM 4 nn nn 0 tx bn 0 w (by decide) hIl (by rw [hIq]; exact hin) (fun w => by rw [hex]; exact HGT w)
        obtain ⟨f, hf⟩ : ∃ f, f = 128 * nn := ⟨_, rfl⟩
        obtain ⟨q, hq⟩ : ∃ q, q = f + 128 := ⟨_, rfl⟩
        have wm3 : 128 * (nn : Int) = (f : Int) := by omega
        have wm4 : (f : Int) + 128 = (q : Int) := by omega
        have wf2 : (f : Int) % 4294967296 = (f : Int) := by omega
        have wf4 : (q : Int) % 4294967296 = (q : Int) := by omega
        have wf1 : IntKind.u32.wrap (f : Int) = (f : Int) := by rw [IntKind.wrap_u32]; exact wf2
        have wf3 : IntKind.u32.wrap (q : Int) = (q : Int) := by rw [IntKind.wrap_u32]; exact wf4
        rw [← hf, ← hq] at hex2
        have hpe := page_eqr 4 nn nn 0 tx bn
        have i1 : (0 : Int) ≤ nn := by omega
        have i2 : (nn : Int) < k := by omega
        have i3 : (0 : Int) ≤ (f : Int) := by omega
        have i4 : (f : Int) ≤ (q : Int) := by omega
        have i5 : (q : Int) ≤ IM.size := by omega
        obtain ⟨g, cap, hv, _, hgl⟩ := HRW.out.form (by omega)
        injection hv with hA hc1 hc2
        obtain ⟨ad, had⟩ : ∃ ad : Addr, ad = ⟨g, 0, none⟩ := ⟨_, rfl⟩
        rw [← had] at hA
        subst hA
        have hcn : ∀ i, i < 6 → (cellsOf tx l k)[nn * 6 + i]? = (#[Value.int .i64 4, .int .i64 nn, .int .u32 nn, .int .u32 0, .int .u64 tx, .string bn].toList)[i]? := fun i hi => by
          rw [cellsOf_at tx l k nn i hin hi, hbn]; rfl
        have HCN := Lib.hid hcn
        have HAD := Lib.hid had
        have HHB := Lib.hid hbn
        clear hims hIs hIq hIl hbn hpn hex hcn HR had hgl hc2 hc1 hf hq
        go_wp2_with fail
        refine (HRD _).mono ?_
        rintro e w3 ⟨rfl, hb3⟩
        have HB3 := Lib.hid (HRB.out.trans (hb3.mono HRB.out.size))
        have HW3 := Lib.hid ((Kept.of_new (F := fun _ => False) hb3).own HRW.out (fun _ _ h => h))
        go_wp2_with fail
        refine (HAT _).mono ?_
        rintro e w' ⟨rfl, rfl⟩
        go_wp2_with fail
        refine (HPG _).mono ?_
        rintro e w' ⟨rfl, rfl⟩
        go_wp2_with fail
        refine (HGT _).mono ?_
        rintro e w4 ⟨rfl, hb4⟩
        have HX := HB3.out.alloc HB3.out.size (.cells #[.int .i64 4, .int .i64 nn, .int .u32 nn, .int .u32 0, .int .u64 tx, .string bn] 29)
        have HB4 := Lib.hid ((HX.trans (hb4.mono HX.size)).alloc (HX.trans (hb4.mono HX.size)).size (.cells #[.int .i64 4, .int .i64 nn, .int .u32 nn, .int .u32 0, .int .u64 tx, .string bn] 29)).drew
        have P17 := Lib.hid ((((Blk.new w3 29 #[.int .i64 4, .int .i64 nn, .int .u32 nn, .int .u32 0, .int .u64 tx, .string bn]).below hb4 (by simp)).alloc (.cells #[.int .i64 4, .int .i64 nn, .int .u32 nn, .int .u32 0, .int .u64 tx, .string bn] 29)).drew)
        have P21 := Lib.hid ((Blk.new w4 29 #[.int .i64 4, .int .i64 nn, .int .u32 nn, .int .u32 0, .int .u64 tx, .string bn]).drew)
        have HW4 := Lib.hid ((((Kept.of_new (F := fun _ => False) hb4).own (HW3.out.alloc (.cells #[.int .i64 4, .int .i64 nn, .int .u32 nn, .int .u32 0, .int .u64 tx, .string bn] 29)) (fun _ _ h => h)).alloc (.cells #[.int .i64 4, .int .i64 nn, .int .u32 nn, .int .u32 0, .int .u64 tx, .string bn] 29)).drew)
        have HEL := elem_cells HW4.out HAD.out HCN.out
        have HE := Lib.hid HEL
        clear HX hb4 HEL
        go_wp2_with fail
        go_region_held3 (fun w' => (w'.cell? ⟨w3.heap.size, 0, none⟩ = some (.int .i64 4) ∧ w'.cell? ⟨w3.heap.size, 1, none⟩ = some (.int .i64 nn) ∧ w'.cell? ⟨w3.heap.size, 2, none⟩ = some (.int .u32 nn) ∧ w'.cell? ⟨w3.heap.size, 3, none⟩ = some (.int .u32 0) ∧ w'.cell? ⟨w3.heap.size, 4, none⟩ = some (.int .u64 tx) ∧ w'.cell? ⟨w3.heap.size, 5, none⟩ = some (.string bn)) ∧ (w'.cell? ⟨w4.heap.size, 0, none⟩ = some (.int .i64 4) ∧ w'.cell? ⟨w4.heap.size, 1, none⟩ = some (.int .i64 nn) ∧ w'.cell? ⟨w4.heap.size, 2, none⟩ = some (.int .u32 nn) ∧ w'.cell? ⟨w4.heap.size, 3, none⟩ = some (.int .u32 0) ∧ w'.cell? ⟨w4.heap.size, 4, none⟩ = some (.int .u64 tx) ∧ w'.cell? ⟨w4.heap.size, 5, none⟩ = some (.string bn)) ∧ (w'.cell? (ad.add (nn * 6)) = some (.int .i64 4) ∧ w'.cell? ⟨(ad.add (nn * 6)).block, (ad.add (nn * 6)).off + 1, none⟩ = some (.int .i64 nn) ∧ w'.cell? ⟨(ad.add (nn * 6)).block, (ad.add (nn * 6)).off + 2, none⟩ = some (.int .u32 nn) ∧ w'.cell? ⟨(ad.add (nn * 6)).block, (ad.add (nn * 6)).off + 3, none⟩ = some (.int .u32 0) ∧ w'.cell? ⟨(ad.add (nn * 6)).block, (ad.add (nn * 6)).off + 4, none⟩ = some (.int .u64 tx) ∧ w'.cell? ⟨(ad.add (nn * 6)).block, (ad.add (nn * 6)).off + 5, none⟩ = some (.string bn)))
          (with_reducible exact ⟨pg_cells P17.out, pg_cells P21.out, HE.out⟩)
          (fail)
        go_wp2_with fail
        go_ret
        exact ⟨rfl, HB4.out⟩
      · have hd1 : decide ((nn : Int) < (k : Int)) = false := by simp; omega
        have hd2 : decide (nn < k) = false := by simp; omega
        have HAT : ∀ w : World, Calls Try.prog 11 #[.int .i64 128, .string IM, .int .u32 nn] w fun e w' => e = .returned (.tuple #[.string ⟨#[]⟩, .bool false]) ∧ w = w' := fun w => at_no 128 nn IM w (by decide) hIl (by rw [hIq]; exact hin) hnn
        have HRD : ∀ w : World, Calls Try.prog 13 #[.int .i64 128, .string IM, .int .u32 nn] w fun e w' => e = .returned (.tuple #[.agg #[.int .i64 0, .int .i64 0, .int .u32 0, .int .u32 0, .int .u64 0, .string ByteArray.empty], .int .i64 5]) ∧ Below w.heap.size w w' := fun w => fread_none 128 nn IM w (by decide) hIl (by rw [hIq]; exact hin) hnn
        have HIM := Lib.hid hIM
        clear hims hIs hIq hIl HR
        go_wp2_with fail
        refine (HRD _).mono ?_
        rintro e w3 ⟨rfl, hb3⟩
        have HB3 := Lib.hid (HRB.out.trans (hb3.mono HRB.out.size))
        go_wp2_with fail
        refine (HAT _).mono ?_
        rintro e w' ⟨rfl, rfl⟩
        go_wp2_with fail
        refine (HPG _).mono ?_
        rintro e w' ⟨rfl, rfl⟩
        go_wp2_with fail
        go_ret
        exact ⟨rfl, HB3.out.alloc HB3.out.size _⟩
theorem freads_early (A : Option Addr) (n c : Nat) (tx nn : Nat) (rest : ByteArray) (w : World) (h : 10 < n ∨ (n ≤ 10 ∧ 127 < rest.size) ∨ (n ≤ 10 ∧ rest.size ≤ 127 ∧ 4611686018427387904 < tx)) :
    Calls Try.prog 5 #[.slice A n c, .int .u64 tx, .int .u32 nn, .string rest] w fun e w' => e = .returned (.bool true) ∧ Below w.heap.size w w' := by
  rcases h with h | ⟨h, h2⟩ | ⟨h, h2, h3⟩
  · have g1 : decide ((10 : Int) < (n : Int)) = true := by simp; omega
    go_enter Try.func5, Try.ntmps5
    go_wp2_with fail
    refine (lives_any _).mono ?_
    rintro e w1 ⟨rfl, hb⟩
    go_wp2_with fail
    go_ret
    exact ⟨rfl, hb⟩
  · have g1 : decide ((10 : Int) < (n : Int)) = false := by simp; omega
    have g2 : decide ((127 : Int) < (rest.size : Int)) = true := by simp; omega
    go_enter Try.func5, Try.ntmps5
    go_wp2_with fail
    refine (lives_any _).mono ?_
    rintro e w1 ⟨rfl, hb⟩
    go_wp2_with fail
    go_ret
    exact ⟨rfl, hb⟩
  · have g1 : decide ((10 : Int) < (n : Int)) = false := by simp; omega
    have g2 : decide ((127 : Int) < (rest.size : Int)) = false := by simp; omega
    have g3 : decide ((4611686018427387904 : Int) < (tx : Int)) = true := by simp; omega
    go_enter Try.func5, Try.ntmps5
    go_wp2_with fail
    refine (lives_any _).mono ?_
    rintro e w1 ⟨rfl, hb⟩
    go_wp2_with fail
    go_ret
    exact ⟨rfl, hb⟩
theorem freads_walk (A : Option Addr) (n c : Nat) (l : List ByteArray) (tx nn : Int) (rest : ByteArray) (w : World) (hl : Texts w w.heap.size A n l) (_hn : n ≤ maxLen) (h1 : (Lit.int .u64 tx).wf = true) (h2 : (Lit.int .u32 nn).wf = true) (_h3 : rest.size ≤ maxLen) :
    Calls Try.prog 5 #[.slice A n c, .int .u64 tx, .int .u32 nn, .string rest] w fun e w' => e = .returned (.bool true) ∧ Below w.heap.size w w' := by
  have u1 := lit_u64b h1
  have u2 := lit_u32b h2
  obtain ⟨tx, rfl⟩ := Int.eq_ofNat_of_zero_le u1.1
  obtain ⟨nn, rfl⟩ := Int.eq_ofNat_of_zero_le u2.1
  by_cases c1 : n ≤ 10
  case neg => exact freads_early A n c tx nn rest w (.inl (by omega))
  by_cases c2 : rest.size ≤ 127
  case neg => exact freads_early A n c tx nn rest w (.inr (.inl ⟨c1, by omega⟩))
  by_cases c3 : tx ≤ 4611686018427387904
  case neg => exact freads_early A n c tx nn rest w (.inr (.inr ⟨c1, c2, by omega⟩))
  exact freads_main A n c l tx nn rest w hl c1 c2 c3 (by omega)
end Go.Proofs.Ytdfkkebjdjmeiaa
