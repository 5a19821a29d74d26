/-
  The walks of the statements CrcNames, CrcCalls and CrcParts: from every start, at every argument, each returns true and changes no block that was there before.
-/
import Derived.Test.YtjamoboajaianaaCrc
import Derived.Deep.RegionWith
import Derived.ChangeKeysEq
namespace Go.Proofs.Ytjamoboajaianaa
open Go.RowKit Go.Lib

theorem crc_none : crcM 0 (⟨#[]⟩ : ByteArray).data.toList = 0 := by decide +kernel
theorem crc_parts : crcM (crcM 0 (⟨#[49, 50, 51, 52]⟩ : ByteArray).data.toList) (⟨#[53, 54, 55, 56, 57]⟩ : ByteArray).data.toList = 3808858755 := by decide +kernel
theorem tab_0 : tab[0]? = some (.int .u32 0) := by rw [tab, tabK_at _ _ (by omega), if_pos (by omega)]; rfl
theorem tab_128 : tab[128]? = some (.int .u32 2197175160) := by
  rw [tab, tabK_at _ _ (by omega), if_pos (by omega)]
  have : stn 8 128 = 2197175160 := by decide +kernel
  rw [this]; rfl
set_option maxRecDepth 100000 in
theorem cnames_walk (w : World) :
    Calls Try.prog 3 #[] w fun e w' => e = .returned (.bool true) ∧ Below w.heap.size w w' := by
  obtain ⟨hz, hi⟩ := zero_of_info infoTab
  have HI := Lib.hid hi
  clear hi
  go_enter Try.func3, Try.ntmps3
  go_wp2_with fail
  refine (lives02_any w).mono ?_
  rintro e w0 ⟨rfl, hb0⟩
  go_wp2_with fail
  refine (table_any _).mono ?_
  rintro e w1 ⟨rfl, hb1⟩
  have hs0 : (Try.prog.info? 24).map (·.size) = some tab.size := by rw [tab, tabK_size]; exact HI.out
  have HS := Lib.hid hs0
  have hbw := hb0.trans (hb1.mono hb0.size)
  have H0 := Lib.hid (show (w1.alloc (.cells (tabK 0) 24)).heap[w1.heap.size]? = some (.cells (tabK 0) 24 (0, 0)) from heap_alloc_new _ _)
  have hb1' := below_setRow (hbw.alloc hbw.size (.cells (tabK 0) 24)) (g := w1.heap.size) hbw.size tab
  have b0 : Blk ((w1.alloc (.cells (tabK 0) 24)).setRow w1.heap.size tab) w1.heap.size 24 tab := setRow_heap _ _ _ _ _ _ H0.out
  have B0 := Lib.hid b0
  have B1 := Lib.hid hb1'
  clear hs0 b0 hb1' hb1 hb0 hbw
  go_wp2_with (first
    | (refine wpList_store_row rfl 24 (.tmp 1) (.tmp 4) rfl w1.heap.size tab rfl rfl 24 (tabK 0) H0.out HS.out (by rw [tab, tabK_size, tabK_size]) (tabK_one _) ?_)
    | fail)
  clear hz
  generalize w1.heap.size = g at *
  generalize (w1.alloc (.cells (tabK 0) 24)).setRow g tab = w2 at *
  refine (of_any ⟨#[]⟩ _ (by decide)).mono ?_
  rw [crc_none]
  rintro e w3 ⟨rfl, hb3⟩
  have B3 := B0.out.below hb3 B0.out.lt
  have hb3' := B1.out.trans (hb3.mono B1.out.size)
  have c0 := B3.cell 0
  have c1 := B3.cell 128
  rw [tab_0] at c0
  rw [tab_128] at c1
  clear hb3 B3
  have HB := Lib.hid hb3'
  clear hb3'
  go_wp2_with fail
  refine (of_any ⟨#[49, 50, 51, 52]⟩ _ (by decide)).mono ?_
  rintro e w4 ⟨rfl, hb4⟩
  go_wp2_with fail
  refine (more_any _ ⟨#[53, 54, 55, 56, 57]⟩ _ (crcM_lt _ _) (by decide)).mono ?_
  rw [crc_parts]
  rintro e w5 ⟨rfl, hb5⟩
  go_wp2_with fail
  go_ret
  exact ⟨rfl, (HB.out.trans (hb4.mono HB.out.size)).trans (hb5.mono (HB.out.trans (hb4.mono HB.out.size)).size)⟩

theorem tab_items (w : World) : ∀ is : List Nat, (∀ i ∈ is, i < 256) → (Op.eqItems 9999 23 1 tab tab is).run Try.prog w = .ok true w
  | [], _ => by simp [Op.eqItems]
  | i :: is, h => by
    have hx : tab[i * 1]? = some (.int .u32 (stn 8 i)) := by
      have hi := h i List.mem_cons_self
      rw [Nat.mul_one, tab, tabK_at _ _ hi, if_pos hi]
    have hp := run_part_plain (P := Try.prog) w (e := 23) (by kernel_rfl) hx
    have hq := run_equalIn_int (P := Try.prog) w 9998 23 .u32 .u32 (stn 8 i : Nat) (stn 8 i : Nat) Try.underlying23
    have ih := tab_items w is fun j hj => h j (List.mem_cons_of_mem _ hj)
    simp only [Op.eqItems, Sem.run_bind, hp, Result.andThen_ok, hq, beq_self_eq_true]
    exact ih
theorem u32_info : ∃ i, Try.prog.info? 23 = some i := by
  have h : (Try.prog.info? 23).isSome = true := by kernel_rfl
  exact Option.isSome_iff_exists.1 h
theorem tab_eql (w : World) : (Op.equalIn 10000 24 (.agg tab) (.agg tab)).run Try.prog w = .ok true w := by
  obtain ⟨i, hi⟩ := u32_info
  have hc : Try.prog.cellsOf 23 = 1 := by kernel_rfl
  rw [run_equalIn_array w 9999 tab tab Try.underlying24 hi, hc]
  exact tab_items w _ fun i hi => List.mem_range.1 hi
set_option maxRecDepth 100000 in
theorem ccalls_walk (a b : ByteArray) (c : Int) (w : World) (h0 : a.size ≤ maxLen) (h1 : b.size ≤ maxLen) (h2 : (Lit.int .u32 c).wf = true) :
    Calls Try.prog 4 #[.string a, .string b, .int .u32 c] w fun e w' => e = .returned (.bool true) ∧ Below w.heap.size w w' := by
  have hu := bounds_u32 h2
  obtain ⟨c, rfl⟩ := Int.eq_ofNat_of_zero_le hu.1
  have hc : c < 4294967296 := by omega
  clear h2 hu
  by_cases hd : a.size ≤ 600 ∧ b.size ≤ 600
  · obtain ⟨hd1, hd2⟩ := hd
    have hd1' : decide ((600 : Int) < a.size) = false := by simp; omega
    have hd2' : decide ((600 : Int) < b.size) = false := by simp; omega
    go_enter Try.func4, Try.ntmps4
    go_wp2_with fail
    refine (lives02_any w).mono ?_
    rintro e w1 ⟨rfl, hb1⟩
    go_wp2_with fail
    refine (of_any a _ h0).mono ?_
    rintro e w2 ⟨rfl, hb2⟩
    have hb2 := hb1.trans (hb2.mono hb1.size)
    clear hb1
    go_wp2_with fail
    refine (rof_any a _ h0).mono ?_
    rintro e w3 ⟨rfl, hb3⟩
    have hb3 := hb2.trans (hb3.mono hb2.size)
    clear hb2
    go_wp2_with fail
    refine (more_any c b _ hc h1).mono ?_
    rintro e w4 ⟨rfl, hb4⟩
    have hb4 := hb3.trans (hb4.mono hb3.size)
    clear hb3
    go_wp2_with fail
    refine (rmore_any c b _ hc h1).mono ?_
    rintro e w5 ⟨rfl, hb5⟩
    have hb5 := hb4.trans (hb5.mono hb4.size)
    clear hb4
    go_wp2_with fail
    refine (table_any _).mono ?_
    rintro e w6 ⟨rfl, hb6⟩
    have hb6 := hb5.trans (hb6.mono hb5.size)
    clear hb5
    have hte := fun w => tab_eql w
    go_wp2_with fail
    refine (rtable_any _).mono ?_
    rintro e w7 ⟨rfl, hb7⟩
    have hb7 := hb6.trans (hb7.mono hb6.size)
    clear hb6
    go_wp2_with fail
    go_ret
    exact ⟨rfl, hb7⟩
  · have hd' : 600 < a.size ∨ (a.size ≤ 600 ∧ 600 < b.size) := by omega
    clear hd
    rcases hd' with hd | ⟨hd, hd2⟩
    · go_enter Try.func4, Try.ntmps4
      go_wp2_with fail
      refine (lives02_any w).mono ?_
      rintro e w1 ⟨rfl, hb1⟩
      go_wp2_with fail
      go_ret
      exact ⟨rfl, hb1⟩
    · go_enter Try.func4, Try.ntmps4
      go_wp2_with fail
      refine (lives02_any w).mono ?_
      rintro e w1 ⟨rfl, hb1⟩
      go_wp2_with fail
      go_ret
      exact ⟨rfl, hb1⟩

theorem pick_any (x : Int) (m : Nat) (w : World) (h0 : 1 ≤ m) (hm : m ≤ 1000000) :
    Calls Try.prog 15 #[.int .i64 x, .int .i64 m] w fun e w' => e = .returned (.int .i64 (x % m)) ∧ w = w' := by
  have h1 : ¬ (m : Int) < 1 := by omega
  have h3 : (m : Int) ≠ 0 := by omega
  by_cases ht : x.tmod m < 0
  · obtain ⟨he, hlo⟩ := tmod_lt0 x m h0 ht
    have HE := Lib.hid he
    clear he
    go_enter Try.func15, Try.ntmps15
    go_wp2
    go_ret
    refine ⟨?_, rfl⟩
    rw [← HE.out]; rfl
  · have he := tmod_ge0 x m h0 (by omega)
    have HE := Lib.hid he
    clear he
    go_enter Try.func15, Try.ntmps15
    go_wp2
    go_ret
    refine ⟨?_, rfl⟩
    rw [← HE.out]; rfl
theorem toList_extract (s : ByteArray) (k : Nat) : (s.extract 0 k).data.toList ++ (s.extract k s.size).data.toList = s.data.toList := by
  rw [Lib.extract_data, Lib.extract_data]
  have hl : s.data.toList.length = s.size := by simp
  simp only [List.drop_zero, Nat.sub_zero]
  rw [List.take_of_length_le (l := s.data.toList.drop k) (by simp), List.take_append_drop]
theorem more_cut (a : ByteArray) (k : Nat) (w : World) (h : a.size ≤ maxLen) :
    Calls Try.prog 11 #[.int .u32 (crcM 0 (a.data.toList.take k) : Nat), .string (a.extract k a.size)] w fun e w' => e = .returned (.int .u32 (crcM 0 a.data.toList)) ∧ Below w.heap.size w w' := by
  have := more_any (crcM 0 (a.extract 0 k).data.toList) (a.extract k a.size) w (crcM_lt _ _) (by rw [ByteArray.size_extract]; omega)
  rw [← crcM_append, toList_extract] at this
  rwa [Lib.extract_data, List.drop_zero, Nat.sub_zero] at this
theorem more_none (a : ByteArray) (w : World) :
    Calls Try.prog 11 #[.int .u32 (crcM 0 a.data.toList : Nat), .string ⟨#[]⟩] w fun e w' => e = .returned (.int .u32 (crcM 0 a.data.toList)) ∧ Below w.heap.size w w' := by
  have := more_any (crcM 0 a.data.toList) ⟨#[]⟩ w (crcM_lt _ _) (by decide)
  rwa [show crcM (crcM 0 a.data.toList) (⟨#[]⟩ : ByteArray).data.toList = crcM 0 a.data.toList from crcM_nil _ (crcM_lt _ _)] at this
theorem more_zero (a : ByteArray) (w : World) (h : a.size ≤ maxLen) :
    Calls Try.prog 11 #[.int .u32 0, .string a] w fun e w' => e = .returned (.int .u32 (crcM 0 a.data.toList)) ∧ Below w.heap.size w w' := more_any 0 a w (by omega) h
set_option maxRecDepth 100000 in
set_option maxHeartbeats 1000000 in
theorem cparts_walk (a : ByteArray) (c : Int) (w : World) (h0 : a.size ≤ maxLen) (_h2 : (Lit.int .i64 c).wf = true) :
    Calls Try.prog 6 #[.string a, .int .i64 c] w fun e w' => e = .returned (.bool true) ∧ Below w.heap.size w w' := by
  have hm := Lib.hid h0
  unfold maxLen at h0
  by_cases hd : a.size ≤ 600
  · have hd1 : decide ((600 : Int) < a.size) = false := by simp; omega
    obtain ⟨k, hk⟩ : ∃ k : Nat, (k : Int) = c % ((a.size + 1 : Nat) : Int) := ⟨(c % ((a.size + 1 : Nat) : Int)).toNat, by have := Int.emod_nonneg c (show ((a.size + 1 : Nat) : Int) ≠ 0 by omega); omega⟩
    have hk2 : k ≤ a.size := by have := Int.emod_lt_of_pos c (show (0 : Int) < ((a.size + 1 : Nat) : Int) by omega); omega
    have HK := Lib.hid hk
    have hk3 : (0 : Int) ≤ k := by omega
    have hk4 : (k : Int) ≤ a.size := by omega
    clear hk
    go_enter Try.func6, Try.ntmps6
    go_wp2_with fail
    refine (lives02_any w).mono ?_
    rintro e w1 ⟨rfl, hb1⟩
    go_wp2_with fail
    refine (pick_any c (a.size + 1) _ (by omega) (by omega)).mono ?_
    rw [← HK.out]
    rintro e w' ⟨rfl, rfl⟩
    have hB := hb1.drew
    clear hb1
    go_wp2_with fail
    go_region_with (first
      | (go_at_call 10
         (first | (with_reducible refine (of_any a _ hm.out).mono ?_) | (with_reducible refine (of_any (a.extract 0 k) _ (by have := hm.out; rw [ByteArray.size_extract]; omega)).mono ?_))
         rintro e w' ⟨rfl, hb⟩
         replace hB := hB.trans (hb.mono hB.size)
         clear hb)
      | (go_at_call 11
         (first | (with_reducible refine (more_cut a k _ hm.out).mono ?_) | (with_reducible refine (more_none a _).mono ?_) | (with_reducible refine (more_zero a _ hm.out).mono ?_))
         rintro e w' ⟨rfl, hb⟩
         replace hB := hB.trans (hb.mono hB.size)
         clear hb))
    all_goals go_wp2
    all_goals go_ret
    all_goals exact ⟨rfl, hB⟩
  · have hd' : 600 < a.size := by omega
    go_enter Try.func6, Try.ntmps6
    go_wp2_with fail
    refine (lives02_any w).mono ?_
    rintro e w1 ⟨rfl, hb1⟩
    go_wp2_with fail
    go_ret
    exact ⟨rfl, hb1⟩
end Go.Proofs.Ytjamoboajaianaa
