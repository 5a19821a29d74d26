/-
  The walk of the statement on chapter 3's examples: from every start it returns true and changes no block that was there before. First the contracts of the methods on no device.
-/
import Derived.Test.YtmkejkmgpigmhaaDevUse
namespace Go.Proofs.Ytmkejkmgpigmhaa
open Go.RowKit
open Go.Lib hiding intOf
set_option linter.unusedVariables false
set_option linter.unusedSimpArgs false

theorem npages (w : World) : Calls Try.prog 24 #[.pointer none] w fun e w' => e = .returned (.int .i64 0) ∧ w = w' := by
  go_enter Try.func24, Try.ntmps24
  go_wp2_with (go_at_call 36; refine dvalid_nil.mono ?_; rintro e w' ⟨rfl, rfl⟩)
  go_ret
  exact ⟨rfl, rfl⟩
theorem nsize (w : World) : Calls Try.prog 22 #[.pointer none] w fun e w' => e = .returned (.int .i64 0) ∧ w = w' := by
  go_enter Try.func22, Try.ntmps22
  go_wp2_with (go_at_call 36; refine dvalid_nil.mono ?_; rintro e w' ⟨rfl, rfl⟩)
  go_ret
  exact ⟨rfl, rfl⟩
theorem ncap (w : World) : Calls Try.prog 23 #[.pointer none] w fun e w' => e = .returned (.int .i64 0) ∧ w = w' := by
  go_enter Try.func23, Try.ntmps23
  go_wp2_with (go_at_call 36; refine dvalid_nil.mono ?_; rintro e w' ⟨rfl, rfl⟩)
  go_ret
  exact ⟨rfl, rfl⟩
theorem nops (w : World) : Calls Try.prog 21 #[.pointer none] w fun e w' => e = .returned (.int .i64 0) ∧ w = w' := by
  go_enter Try.func21, Try.ntmps21
  go_wp2_with (go_at_call 36; refine dvalid_nil.mono ?_; rintro e w' ⟨rfl, rfl⟩)
  go_ret
  exact ⟨rfl, rfl⟩
theorem npending (w : World) : Calls Try.prog 15 #[.pointer none] w fun e w' => e = .returned (.int .i64 0) ∧ w = w' := by
  go_enter Try.func15, Try.ntmps15
  go_wp2_with (go_at_call 36; refine dvalid_nil.mono ?_; rintro e w' ⟨rfl, rfl⟩)
  go_ret
  exact ⟨rfl, rfl⟩
theorem nimage (w : World) : Calls Try.prog 18 #[.pointer none] w fun e w' => e = .returned (.string ⟨#[]⟩) ∧ w = w' := by
  go_enter Try.func18, Try.ntmps18
  go_wp2_with (go_at_call 36; refine dvalid_nil.mono ?_; rintro e w' ⟨rfl, rfl⟩)
  go_ret
  exact ⟨rfl, rfl⟩
theorem ndurable (w : World) : Calls Try.prog 20 #[.pointer none] w fun e w' => e = .returned (.string ⟨#[]⟩) ∧ w = w' := by
  go_enter Try.func20, Try.ntmps20
  go_wp2_with (go_at_call 36; refine dvalid_nil.mono ?_; rintro e w' ⟨rfl, rfl⟩)
  go_ret
  exact ⟨rfl, rfl⟩
theorem nsync (w : World) : Calls Try.prog 17 #[.pointer none] w fun e w' => e = .returned (.int .i64 1) ∧ w = w' := by
  go_enter Try.func17, Try.ntmps17
  go_wp2_with (go_at_call 36; refine dvalid_nil.mono ?_; rintro e w' ⟨rfl, rfl⟩)
  go_ret
  exact ⟨rfl, rfl⟩
theorem nread (w : World) (n : Int) : Calls Try.prog 12 #[.pointer none, .int .u32 n] w fun e w' => e = .returned (.tuple #[.string ⟨#[]⟩, .int .i64 1]) ∧ w = w' := by
  go_enter Try.func12, Try.ntmps12
  go_wp2_with (go_at_call 36; refine dvalid_nil.mono ?_; rintro e w' ⟨rfl, rfl⟩)
  go_ret2
  exact ⟨rfl, rfl⟩
theorem ncrash (w : World) (A : Option Addr) (n c : Nat) : Calls Try.prog 19 #[.pointer none, .slice A n c] w fun e w' => e = .returned (.int .i64 1) ∧ w = w' := by
  go_enter Try.func19, Try.ntmps19
  go_wp2_with (go_at_call 36; refine dvalid_nil.mono ?_; rintro e w' ⟨rfl, rfl⟩)
  go_ret
  exact ⟨rfl, rfl⟩
theorem nwrite (w : World) (n : Nat) (b : ByteArray) : Calls Try.prog 13 #[.pointer none, .int .u32 n, .string b] w fun e w' => e = .returned (.int .i64 1) ∧ Below w.heap.size w w' := by
  have hB := Lib.hid (wbox_below w n b)
  go_enter Try.func13, Try.ntmps13
  go_wp2_with (go_at_call 36; refine dvalid_nil.mono ?_; rintro e w' ⟨rfl, rfl⟩)
  go_ret
  exact ⟨rfl, hB.out⟩
theorem ntrunc (w : World) (n : Nat) : Calls Try.prog 14 #[.pointer none, .int .u32 n] w fun e w' => e = .returned (.int .i64 1) ∧ Below w.heap.size w w' := by
  have hB := Lib.hid (tbox_below w n)
  go_enter Try.func14, Try.ntmps14
  go_wp2_with (go_at_call 36; refine dvalid_nil.mono ?_; rintro e w' ⟨rfl, rfl⟩)
  go_ret
  exact ⟨rfl, hB.out⟩
/-- The written image of the example. -/
theorem names_img (x : ByteArray) (y : ByteArray) (hx : x.data.toList = List.replicate 383 120) (hy : y.data.toList.length = 128) : bWrite 128 2 y.data.toList x.data.toList = List.replicate 256 120 ++ y.data.toList := by
  unfold bWrite
  rw [hx, List.drop_of_length_le (l := List.replicate 383 (120 : UInt8)) (by rw [List.length_replicate]; decide), List.append_nil, List.length_replicate, List.take_append_of_le_length (by rw [List.length_replicate]; decide), List.take_replicate]
  rfl

set_option maxHeartbeats 12800000 in
set_option maxRecDepth 1000000 in
theorem names_walk (w : World) :
    Calls Try.prog 3 #[] w fun e w' => e = .returned (.bool true) ∧ Below w.heap.size w w' := by
  obtain ⟨y, hy⟩ : ∃ y, y = reps ⟨#[121]⟩ 128 := ⟨_, rfl⟩
  obtain ⟨x4, hx4⟩ : ∃ x, x = reps ⟨#[120]⟩ 384 := ⟨_, rfl⟩
  obtain ⟨x3, hx3⟩ : ∃ x, x = reps ⟨#[120]⟩ 383 := ⟨_, rfl⟩
  obtain ⟨x2, hx2⟩ : ∃ x, x = reps ⟨#[120]⟩ 256 := ⟨_, rfl⟩
  have hys : y.size = 128 := by rw [hy, reps_lit_size]
  have hyl : y.data.toList.length = 128 := by rw [size_list, hys]
  have hx4s : x4.size = 384 := by rw [hx4, reps_lit_size]
  have hx3s : x3.size = 383 := by rw [hx3, reps_lit_size]
  have hx2s : x2.size = 256 := by rw [hx2, reps_lit_size]
  have hx3l : x3.data.toList = List.replicate 383 120 := by rw [hx3, reps_list]; exact rep_one 120 383
  have hx2l : x2.data.toList = List.replicate 256 120 := by rw [hx2, reps_list]; exact rep_one 120 256
  obtain ⟨L, hL⟩ : ∃ L, x2 ++ y = L := ⟨_, rfl⟩
  have hLl : bWrite 128 2 y.data.toList x3.data.toList = L.data.toList := by
    rw [names_img x3 y hx3l hyl, ← hL, ByteArray.data_append, Array.toList_append, hx2l]
  have hLs : L.data.toList.length = 384 := by rw [size_list, ← hL, ByteArray.size_append, hx2s, hys]
  have hLp : (L.data.toList.drop (2 * 128)).take 128 = y.data.toList := by
    rw [← hL, ByteArray.data_append, Array.toList_append, List.drop_append, List.drop_of_length_le (by rw [size_list, hx2s]; decide), size_list, hx2s]
    show List.take 128 (List.drop 0 y.data.toList) = _
    rw [List.drop_zero, List.take_of_length_le (by rw [hyl]; decide)]
  obtain ⟨I, hI⟩ : ∃ I : ByteArray, I = ⟨(bCut 128 1 L.data.toList).toArray⟩ := ⟨_, rfl⟩
  have hIl : bCut 128 1 L.data.toList = I.data.toList := by rw [hI]
  have hIs : I.size = 128 := by rw [← size_list, ← hIl]; unfold bCut; rw [List.length_take, hLs]; rfl
  have ty : ∀ W : World, Calls Try.prog 10 #[.string ⟨#[121]⟩, .int .i64 128] W fun e w' => e = .returned (.string y) ∧ W = w' := fun W => by
    have := times_any ⟨#[121]⟩ 128 W (by decide) (by decide)
    rw [← hy] at this; exact this
  have t4 : ∀ W : World, Calls Try.prog 10 #[.string ⟨#[120]⟩, .int .i64 384] W fun e w' => e = .returned (.string x4) ∧ W = w' := fun W => by
    have := times_any ⟨#[120]⟩ 384 W (by decide) (by decide)
    rw [← hx4] at this; exact this
  have t3 : ∀ W : World, Calls Try.prog 10 #[.string ⟨#[120]⟩, .int .i64 383] W fun e w' => e = .returned (.string x3) ∧ W = w' := fun W => by
    have := times_any ⟨#[120]⟩ 383 W (by decide) (by decide)
    rw [← hx3] at this; exact this
  have t2 : ∀ W : World, Calls Try.prog 10 #[.string ⟨#[120]⟩, .int .i64 256] W fun e w' => e = .returned (.string x2) ∧ W = w' := fun W => by
    have := times_any ⟨#[120]⟩ 256 W (by decide) (by decide)
    rw [← hx2] at this; exact this
  have hcat : ¬ (9223372036854775807 < x2.size + y.size) := by omega
  have HYS := Lib.hid hys
  have HYL := Lib.hid hyl
  have H4S := Lib.hid hx4s
  have H3S := Lib.hid hx3s
  have HLL := Lib.hid hLl
  have HLS := Lib.hid hLs
  have HLP := Lib.hid hLp
  have HIL := Lib.hid hIl
  have hIsi : (I.size : Int) = 128 := by omega
  clear hy hx4 hx3 hx2 hys hyl hx4s hx3s hx2s hx3l hx2l hLl hLs hLp hI hIl hIs
  go_enter Try.func3, Try.ntmps3
  go_wp2_with fail
  refine (lives_any w).mono ?_
  rintro e w1 ⟨rfl, hB⟩
  go_wp2_with fail
  refine (ty _).mono ?_
  rintro e w' ⟨rfl, rfl⟩
  go_wp2_with fail
  refine (dnew_bad 100 9 ⟨#[]⟩ _ (by decide)).mono ?_
  rintro e w' ⟨rfl, rfl⟩
  go_wp2_with fail
  refine (dnew_cap 128 1 ⟨#[]⟩ _ (by decide) (by decide)).mono ?_
  rintro e w' ⟨rfl, rfl⟩
  go_wp2_with fail
  refine (t4 _).mono ?_
  rintro e w' ⟨rfl, rfl⟩
  go_wp2_with fail
  refine (dnew_full 128 2 x4 _ (by decide) (by decide) (by decide) (by rw [H4S.out]; decide) (by rw [H4S.out]; decide)).mono ?_
  rintro e w' ⟨rfl, rfl⟩
  go_wp2_with fail
  refine (t3 _).mono ?_
  rintro e w' ⟨rfl, rfl⟩
  go_wp2_with fail
  refine (dnew_ok 128 3 x3 _ (by decide) (by decide) (by decide) (by rw [H3S.out]; decide)).mono ?_
  rintro e w2 ⟨g, rfl, hd0, hb⟩
  obtain ⟨F, hF, hd⟩ : ∃ F, (∀ j, F j → w.heap.size ≤ j) ∧ Dev w2 F g ⟨128, 3, x3.data.toList, x3.data.toList, [], -1, 0⟩ := ⟨_, fun j hj => Nat.le_trans hB.size hj.1, hd0⟩
  replace hB := hB.trans (hb.mono hB.size)
  clear hd0 hb
  go_wp2_with fail
  refine (dread_none hd 2 (by show x3.data.toList.length / 128 ≤ 2; rw [size_list, H3S.out]; decide)).mono ?_
  rintro e w' ⟨rfl, rfl⟩
  go_wp2_with fail
  refine (dwrite_arg hd 0 ⟨#[115, 104, 111, 114, 116]⟩ (by show 5 ≠ 128; decide)).mono ?_
  rintro e w3 ⟨rfl, hb⟩
  replace hd := hd.new hb
  replace hB := hB.trans (hb.mono hB.size)
  clear hb
  go_wp2_with fail
  refine (dwrite_full hd 3 y HYS.out (by show 3 ≤ 3; decide)).mono ?_
  rintro e w3 ⟨rfl, hb⟩
  replace hd := hd.new hb
  replace hB := hB.trans (hb.mono hB.size)
  clear hb
  go_wp2_with fail
  refine (dwrite_yes hd 2 y HYS.out (by show 2 < 3; decide) (fun h => absurd (show (-1 : Int) = 0 from h) (by decide)) (by show -9223372036854775808 ≤ (-1 : Int); decide) (by show (-1 : Int) ≤ 9223372036854775807; decide) (by show 0 ≤ 4294967296; decide)).mono ?_
  rintro e w3 ⟨rfl, hd2, hk⟩
  have hx : ∃ F2, (∀ j, F2 j → w.heap.size ≤ j) ∧ Dev w3 F2 g ⟨128, 3, L.data.toList, x3.data.toList, [.wr 2 y], -1, 1⟩ := ⟨_, grow_ge hF hB.size, by rw [← HLL.out]; exact hd2⟩
  replace hB := hB.trans (hk.below hF hB.size)
  clear hd hd2 hk hF F
  obtain ⟨F, hF, hd⟩ := hx
  go_wp2_with fail
  refine (read_is hd 2 (by show 2 < L.data.toList.length / 128; rw [HLS.out]; decide) (p := y) HLP.out).mono ?_
  rintro e w' ⟨rfl, rfl⟩
  go_wp2_with fail
  refine (dtrunc_arg hd 4 (by show 3 < 4; decide)).mono ?_
  rintro e w3 ⟨rfl, hb⟩
  replace hd := hd.new hb
  replace hB := hB.trans (hb.mono hB.size)
  clear hb
  go_wp2_with fail
  refine (dtrunc_yes hd 1 (by show 1 ≤ 3; decide) (fun h => absurd (show (-1 : Int) = 0 from h) (by decide)) (by show -9223372036854775808 ≤ (-1 : Int); decide) (by show (-1 : Int) ≤ 9223372036854775807; decide) (by show 1 ≤ 4294967296; decide)).mono ?_
  rintro e w3 ⟨rfl, hd2, hk⟩
  have hx : ∃ F2, (∀ j, F2 j → w.heap.size ≤ j) ∧ Dev w3 F2 g ⟨128, 3, I.data.toList, x3.data.toList, [.wr 2 y, .tr 1], -1, 2⟩ := ⟨_, grow_ge hF hB.size, by rw [← HIL.out]; exact hd2⟩
  replace hB := hB.trans (hk.below hF hB.size)
  clear hd hd2 hk hF F
  obtain ⟨F, hF, hd⟩ := hx
  go_wp2_with fail
  refine (pending_is hd (n := 2) rfl).mono ?_
  rintro e w' ⟨rfl, rfl⟩
  go_wp2_with fail
  refine (dfuse_any hd 0).mono ?_
  rintro e w3 ⟨rfl, hd2, hk⟩
  replace hB := hB.trans (hk.below hF hB.size)
  clear hd hk
  have hd := hd2
  clear hd2
  go_wp2_with fail
  refine (dwrite_no hd 0 y HYS.out (by show 0 < 3; decide) rfl (by show 2 ≤ 4294967296; decide)).mono ?_
  rintro e w3 ⟨rfl, hb⟩
  replace hd := hd.new hb
  replace hB := hB.trans (hb.mono hB.size)
  clear hb
  go_wp2_with fail
  refine (dsync_no hd rfl).mono ?_
  rintro e w' ⟨rfl, rfl⟩
  go_wp2_with fail
  refine (image_is hd (I := I) rfl).mono ?_
  rintro e w3 ⟨rfl, hb⟩
  replace hd := hd.new hb
  replace hB := hB.trans (hb.mono hB.size)
  clear hb
  have hr : Reads (w3.alloc (.cells #[.int .i64 0, .int .i64 7] 3)) (w3.alloc (.cells #[.int .i64 0, .int .i64 7] 3)).heap.size 1 (some ⟨w3.heap.size, 0, none⟩) 2 (([0, 7] : List Int).map (Value.int .i64)) := (reads_blk (Blk.new w3 3 #[.int .i64 0, .int .i64 7])).more (by simp)
  have hlt := hd.lt
  have hbx : Below w3.heap.size w3 (w3.alloc (.cells #[.int .i64 0, .int .i64 7] 3)) := (Below.refl _ _).alloc (Nat.le_refl _) _
  replace hd := hd.new hbx
  replace hB := hB.trans (hbx.mono hB.size)
  have hku : keepUp 128 [0, 7] [.wr 2 y, .tr 1] x3.data.toList 2 = L.data.toList := by rw [← HLL.out]; rfl
  have HKU := Lib.hid hku
  have HR := Lib.hid hr
  have hnF : ∀ a, (some ⟨w3.heap.size, 0, none⟩ : Option Addr) = some a → ¬ F a.block := by
    rintro a ⟨⟩ h; exact Nat.lt_irrefl _ (hlt _ h)
  clear hku hr hbx hlt
  go_wp2_with fail
  refine (dcrash_any hd (by show 2 ≤ 4294967296; decide) 2 HR.out (by decide) hnF).mono ?_
  rintro e w4 ⟨rfl, hd2, hk⟩
  have hx : ∃ F2, (∀ j, F2 j → w.heap.size ≤ j) ∧ Dev w4 F2 g ⟨128, 3, L.data.toList, L.data.toList, [], -1, 2⟩ := ⟨_, grow_ge hF hB.size, by rw [← HKU.out]; exact hd2⟩
  replace hB := hB.trans (hk.below hF hB.size)
  clear hd hd2 hk hF hnF HR F
  obtain ⟨F, hF, hd⟩ := hx
  go_wp2_with fail
  refine (nread _ _).mono ?_
  rintro e w' ⟨rfl, rfl⟩
  go_wp2_with fail
  refine (image_is hd (I := L) rfl).mono ?_
  rintro e w3 ⟨rfl, hb⟩
  replace hd := hd.new hb
  replace hB := hB.trans (hb.mono hB.size)
  clear hb
  go_wp2_with fail
  refine (t2 _).mono ?_
  rintro e w' ⟨rfl, rfl⟩
  go_wp2_with fail
  refine (durable_is hd (I := L) rfl).mono ?_
  rintro e w3 ⟨rfl, hb⟩
  replace hd := hd.new hb
  replace hB := hB.trans (hb.mono hB.size)
  clear hb
  go_wp2_with fail
  refine (image_is hd (I := L) rfl).mono ?_
  rintro e w3 ⟨rfl, hb⟩
  replace hd := hd.new hb
  replace hB := hB.trans (hb.mono hB.size)
  clear hb
  go_wp2_with fail
  refine (pending_is hd (n := 0) rfl).mono ?_
  rintro e w' ⟨rfl, rfl⟩
  go_wp2_with fail
  refine (dops_any hd).mono ?_
  rintro e w' ⟨rfl, rfl⟩
  go_wp2_with fail
  refine (dsync_yes hd (fun h => absurd (show (-1 : Int) = 0 from h) (by decide)) (by show -9223372036854775808 ≤ (-1 : Int); decide) (by show (-1 : Int) ≤ 9223372036854775807; decide) (by show 2 ≤ 4294967296; decide)).mono ?_
  rintro e w3 ⟨rfl, hd2, hk⟩
  have hx : ∃ F2, (∀ j, F2 j → w.heap.size ≤ j) ∧ Dev w3 F2 g ⟨128, 3, L.data.toList, L.data.toList, [], -1, 3⟩ := ⟨_, grow_ge hF hB.size, by exact hd2⟩
  replace hB := hB.trans (hk.below hF hB.size)
  clear hd hd2 hk hF F
  obtain ⟨F, hF, hd⟩ := hx
  go_wp2_with fail
  refine (dsize_any hd).mono ?_
  rintro e w' ⟨rfl, rfl⟩
  go_wp2_with fail
  refine (dcap_any hd).mono ?_
  rintro e w' ⟨rfl, rfl⟩
  go_wp2_with fail
  refine (nwrite _ 0 y).mono ?_
  rintro e w3 ⟨rfl, hb⟩
  replace hB := hB.trans (hb.mono hB.size)
  clear hb
  go_wp2_with fail
  refine (ntrunc _ 0).mono ?_
  rintro e w3 ⟨rfl, hb⟩
  replace hB := hB.trans (hb.mono hB.size)
  clear hb
  go_wp2_with fail
  refine (nsync _).mono ?_
  rintro e w' ⟨rfl, rfl⟩
  go_wp2_with fail
  refine (ncrash _ _ _ _).mono ?_
  rintro e w' ⟨rfl, rfl⟩
  go_wp2_with fail
  refine (npages _).mono ?_
  rintro e w' ⟨rfl, rfl⟩
  go_wp2_with fail
  refine (nimage _).mono ?_
  rintro e w' ⟨rfl, rfl⟩
  go_wp2_with fail
  refine (ndurable _).mono ?_
  rintro e w' ⟨rfl, rfl⟩
  go_wp2_with fail
  refine (nops _).mono ?_
  rintro e w' ⟨rfl, rfl⟩
  go_wp2_with fail
  refine (npending _).mono ?_
  rintro e w' ⟨rfl, rfl⟩
  go_wp2_with fail
  refine (nsize _).mono ?_
  rintro e w' ⟨rfl, rfl⟩
  go_wp2_with fail
  refine (ncap _).mono ?_
  rintro e w' ⟨rfl, rfl⟩
  go_wp2_with fail
  refine (dgood_any 4096 _).mono ?_
  rintro e w' ⟨rfl, rfl⟩
  go_wp2_with fail
  refine (dgood_any 4160 _).mono ?_
  rintro e w' ⟨rfl, rfl⟩
  go_wp2_with fail
  refine (dgood_any 130 _).mono ?_
  rintro e w' ⟨rfl, rfl⟩
  go_wp2_with fail
  go_ret
  exact ⟨rfl, hB⟩
end Go.Proofs.Ytmkejkmgpigmhaa
