/-
  The walk of the statement DeviceGrows (a page that is written beyond the end is there, with zero bytes in between; a truncation removes exactly what comes after it): from every start, at every argument, it returns true and changes no block that was there before.
-/
import Derived.Test.YtmkejkmgpigmhaaDevLaw
import Derived.Lib.MinMax
import Derived.Deep.QuietTactic
import Derived.BigQuiet
import Derived.Deep.RegionHeld3
namespace Go.Proofs.Ytmkejkmgpigmhaa
open Go.RowKit
open Go.Lib hiding intOf
set_option linter.unusedVariables false
set_option linter.unusedSimpArgs false

theorem reads_blk {w : World} {g : Nat} {t : TypeId} {cs : Array Value} (h : Blk w g t cs) : Reads w (g + 1) 1 (some ⟨g, 0, none⟩) cs.size cs.toList := by
  refine ⟨by simp, fun _ => ⟨_, rfl, Nat.lt_succ_self _, fun j u hu => ?_⟩⟩
  have e : (⟨g, 0, none⟩ : Addr).add j = ⟨g, j, none⟩ := by unfold Addr.add; split <;> simp_all
  rw [e, h.cell j]
  simpa using hu
/-- 'string([]byte{b})'. -/
theorem conv_one (b : UInt8) {w : World} {g : Nat} {t : TypeId} (h : Blk w g t #[.int .u8 b.toNat]) :
    (convert 57 9 (.slice (some ⟨g, 0, none⟩) 1 1)).run Try.prog w = .ok (.string ⟨#[b]⟩) w :=
  run_string_reads w 57 9 5 1 (l := [b]) Try.underlying57 Try.underlying5 Try.underlying9 (reads_blk h)

section
variable {w : World} {F : Nat → Prop} {g : Nat} {S : DevS}
theorem image_is (h : Dev w F g S) {I : ByteArray} (hI : S.img = I.data.toList) :
    Calls Try.prog 18 #[.pointer (some ⟨g, 0, none⟩)] w fun e w' => e = .returned (.string I) ∧ Below w.heap.size w w' := by
  have := dimage_any h
  rw [hI, mk_list] at this
  exact this
theorem durable_is (h : Dev w F g S) {I : ByteArray} (hI : S.dur = I.data.toList) :
    Calls Try.prog 20 #[.pointer (some ⟨g, 0, none⟩)] w fun e w' => e = .returned (.string I) ∧ Below w.heap.size w w' := by
  have := ddurable_any h
  rw [hI, mk_list] at this
  exact this
theorem pending_is (h : Dev w F g S) {n : Nat} (hn : S.pend.length = n) :
    Calls Try.prog 15 #[.pointer (some ⟨g, 0, none⟩)] w fun e w' => e = .returned (.int .i64 n) ∧ w = w' := by
  have := dpending_any h
  rw [hn] at this
  exact this
theorem sync_is (h : Dev w F g S) (hf : S.fuse ≠ 0) (hlo : -9223372036854775808 ≤ S.fuse) (hhi : S.fuse ≤ 9223372036854775807) (hops : S.ops ≤ 4294967296) {l : List UInt8} (hl : allOn S.size S.pend S.dur = l) :
    Calls Try.prog 17 #[.pointer (some ⟨g, 0, none⟩)] w fun e w' => e = .returned (.int .i64 0) ∧ Dev w' (Grow F w w') g { S with dur := l, pend := [], fuse := burn S.fuse, ops := S.ops + 1 } ∧ Kept F w w' := by
  have := dsync_yes h hf hlo hhi hops
  rw [hl] at this
  exact this
end

set_option maxHeartbeats 3200000 in
set_option maxRecDepth 100000 in
theorem grows_walk (s : ByteArray) (x : Int) (b : Int) (y : Int) (w : World) (hs : s.size ≤ maxLen) (hx : (Lit.int .i64 x).wf = true) (hb : (Lit.int .u8 b).wf = true) (hy : (Lit.int .i64 y).wf = true) :
    Calls Try.prog 8 #[.string s, .int .i64 x, .int .u8 b, .int .i64 y] w fun e w' => e = .returned (.bool true) ∧ Below w.heap.size w w' := by
  have hbb := bounds_u8 hb
  obtain ⟨c, hc⟩ : ∃ c : UInt8, b = (c.toNat : Int) := ⟨UInt8.ofNat b.toNat, by simp only [UInt8.toNat_ofNat']; omega⟩
  subst hc
  obtain ⟨P, hP⟩ : ∃ P : Nat, x % ((20 : Nat) : Int) = (P : Int) := ⟨(x % 20).toNat, by omega⟩
  obtain ⟨Q, hQ⟩ : ∃ Q : Nat, y % ((21 : Nat) : Int) = (Q : Int) := ⟨(y % 21).toNat, by omega⟩
  have hP20 : P < 20 := by omega
  have hQ20 : Q < 21 := by omega
  have p1 := fun W => pick_any x 20 W (by decide) (by decide)
  have p2 := fun W => pick_any y 21 W (by decide) (by decide)
  rw [hP] at p1
  rw [hQ] at p2
  obtain ⟨Y, hY⟩ : ∃ Y, Y = reps ⟨#[c]⟩ 128 := ⟨_, rfl⟩
  have hYs : Y.size = 128 := by rw [hY, reps_lit_size]
  have HY := Lib.hid hY
  have HYS := Lib.hid hYs
  have HP := Lib.hid hP
  have HQ := Lib.hid hQ
  clear hx hb hy hbb hP hQ hY hYs
  go_enter Try.func8, Try.ntmps8
  go_wp2_with fail
  refine (lives_any w).mono ?_
  rintro e w1 ⟨rfl, hb1⟩
  by_cases h15 : 1500 < s.size
  · have h15' : (1500 : Int) < s.size := by omega
    go_wp2_with fail
    go_ret
    exact ⟨rfl, hb1⟩
  · have h15' : ¬ (1500 : Int) < s.size := by omega
    have h15n : s.size ≤ 1500 := by omega
    obtain ⟨AT, hAT⟩ : ∃ AT : Nat, AT = 128 * P := ⟨_, rfl⟩
    obtain ⟨Z, hZ⟩ : ∃ Z : Nat, Z = AT + 128 - s.size := ⟨_, rfl⟩
    obtain ⟨z0, hz0⟩ : ∃ z0, z0 = reps ⟨#[0]⟩ Z := ⟨_, rfl⟩
    have hz0s : z0.size = Z := by rw [hz0, reps_lit_size]
    obtain ⟨W0, hW0⟩ : ∃ W0, s ++ z0 = W0 := ⟨_, rfl⟩
    have hW0s : W0.size = s.size + Z := by rw [← hW0, ByteArray.size_append, hz0s]
    have eAT : 128 * (P : Int) = (AT : Int) := by omega
    have eMax : max 0 ((AT : Int) + 128 - (s.size : Int)) = (Z : Int) := by omega
    have hZle : Z ≤ 2688 := by omega
    have hAT2 : AT ≤ 2432 := by omega
    have hcat1 : ¬ (9223372036854775807 < s.size + z0.size) := by omega
    have hn := dnew_ok 128 20 s w1 (by decide) (by decide) (by decide) (by omega)
    have t3 := fun W => times_any ⟨#[0]⟩ Z W (by omega) (by decide)
    have t2 := fun W => times_any ⟨#[c]⟩ 128 W (by decide) (by show 1 ≤ 1048576; decide)
    rw [← hz0] at t3
    rw [← HY.out] at t2
    have HAT := Lib.hid hAT
    have HZ := Lib.hid hZ
    have HZ0 := Lib.hid hz0
    have HZS := Lib.hid hz0s
    have HWS := Lib.hid hW0s
    have a0 : (0 : Int) ≤ AT := by omega
    have a1 : (AT : Int) ≤ W0.size := by omega
    have a2 : (AT : Int) + 128 ≤ W0.size := by omega
    clear hAT hZ hz0 hz0s hW0s h15
    go_wp2_with fail
    refine (p1 _).mono ?_
    rintro e w' ⟨rfl, rfl⟩
    go_wp2_with fail
    refine (p2 _).mono ?_
    rintro e w' ⟨rfl, rfl⟩
    go_wp2_with fail
    refine hn.mono ?_
    rintro e w2 ⟨g, rfl, hd, hb2⟩
    have cv := conv_one c (Blk.new w2 5 #[.int .u8 c.toNat])
    have hd2 := hd.new ((Below.refl _ w2).alloc (Nat.le_refl _) (.cells #[.int .u8 c.toNat] 5))
    have hb2' : Below w.heap.size w (w2.alloc (.cells #[.int .u8 c.toNat] 5)) := (hb1.trans (hb2.mono hb1.size)).alloc (Nat.le_trans hb1.size hb2.size) _
    go_wp2_with fail
    refine (t2 _).mono ?_
    rintro e w' ⟨rfl, rfl⟩
    go_wp2_with fail
    refine dwrite_go hd2 P Y HYS.out hP20 (fun h => absurd (show (-1 : Int) = 0 from h) (by decide)) ?_ (by show -9223372036854775808 ≤ (-1 : Int); decide) (by show (-1 : Int) ≤ 9223372036854775807; decide) (by show 0 ≤ 4294967296; omega)
    intro _ w3 hd3 hk3
    go_wp2_with fail
    refine (t3 _).mono ?_
    rintro e w' ⟨rfl, rfl⟩
    go_wp2_with fail
    obtain ⟨A2, hA2⟩ : ∃ A2 : Nat, A2 = AT + 128 := ⟨_, rfl⟩
    obtain ⟨U, hU⟩ : ∃ U, W0.extract 0 AT = U := ⟨_, rfl⟩
    obtain ⟨V, hV⟩ : ∃ V, W0.extract A2 W0.size = V := ⟨_, rfl⟩
    obtain ⟨UY, hUY⟩ : ∃ UY, U ++ Y = UY := ⟨_, rfl⟩
    obtain ⟨WA, hWA⟩ : ∃ WA, UY ++ V = WA := ⟨_, rfl⟩
    have hUs : U.size ≤ 5000 := by rw [← hU, ByteArray.size_extract]; have := HWS.out; omega
    have hVs : V.size ≤ 5000 := by rw [← hV, ByteArray.size_extract]; have := HWS.out; omega
    have hUYs : UY.size ≤ 6000 := by rw [← hUY, ByteArray.size_append]; have := HYS.out; omega
    have hc2 : ¬ (9223372036854775807 < U.size + Y.size) := by have := HYS.out; omega
    have hc3 : ¬ (9223372036854775807 < UY.size + V.size) := by omega
    have hWAl : WA.data.toList = bWrite 128 P Y.data.toList s.data.toList := by
      have eW : W0.data.toList = s.data.toList ++ List.replicate Z 0 := by
        rw [← hW0, ByteArray.data_append, Array.toList_append, HZ0.out, reps_list]
        congr 1
        exact rep_one 0 Z
      have hsl := size_list s
      rw [← hWA, ← hUY, ← hU, ← hV]
      simp only [ByteArray.data_append, Array.toList_append, ext_list, List.drop_zero, Nat.sub_zero]
      unfold bWrite
      rw [hsl, show P * 128 = AT by have := HAT.out; omega, ← hA2, show A2 - s.size = Z by have := HZ.out; omega, eW]
      congr 1
      rw [List.take_of_length_le (by rw [List.length_drop, List.length_append, List.length_replicate, hsl]; have := HWS.out; omega), List.drop_append, hsl, List.drop_of_length_le (l := List.replicate _ _) (by rw [List.length_replicate]; have := HZ.out; omega), List.append_nil]
    have hWAs : WA.size = s.size + Z := by
      rw [← size_list, hWAl, bWrite_len _ _ _ _ (by rw [size_list]; exact HYS.out), size_list]
      have := HAT.out; have := HZ.out; omega
    obtain ⟨BQ, hBQ⟩ : ∃ BQ : Nat, BQ = 128 * Q := ⟨_, rfl⟩
    obtain ⟨MQ, hMQ⟩ : ∃ MQ : Nat, MQ = min WA.size BQ := ⟨_, rfl⟩
    obtain ⟨I4, hI4⟩ : ∃ I4, WA.extract 0 MQ = I4 := ⟨_, rfl⟩
    have hI4l : I4.data.toList = bCut 128 Q WA.data.toList := by
      rw [← hI4, ext_list, List.drop_zero, Nat.sub_zero]
      unfold bCut
      rw [show Q * 128 = BQ by omega, hMQ]
      by_cases h : WA.size ≤ BQ
      · rw [Nat.min_eq_left h, List.take_of_length_le (by rw [size_list]; exact Nat.le_refl _), List.take_of_length_le (by rw [size_list]; exact h)]
      · rw [Nat.min_eq_right (by omega)]
    have aw : IntKind.i64.wrap ((AT : Int) + 128) = (A2 : Int) := by rw [IntKind.wrap_i64]; omega
    have aq : IntKind.i64.wrap (128 * (Q : Int)) = (BQ : Int) := by rw [IntKind.wrap_i64]; omega
    have am : min (WA.size : Int) (BQ : Int) = (MQ : Int) := by omega
    have g1 : (0 : Int) ≤ A2 := by omega
    have g2 : (A2 : Int) ≤ W0.size := by have := HWS.out; have := HZ.out; omega
    have g3 : (0 : Int) ≤ MQ := by omega
    have g4 : (MQ : Int) ≤ WA.size := by omega
    have HA2 := Lib.hid hA2
    have HWL := Lib.hid hWAl
    have HIL := Lib.hid hI4l
    have HBQ := Lib.hid hBQ
    have HMQ := Lib.hid hMQ
    have HB2 := Lib.hid hb2'
    have HWAS := Lib.hid hWAs
    have HS1 := Lib.hid hb1.size
    have HS2 := Lib.hid hb2.size
    clear hA2 hWAl hI4l hBQ hMQ hWAs hb2' hb2 hb1 hd hd2 cv eAT eMax a2
    go_quiet (fail)
    have hF3 : ∀ j, Grow (fun k => w1.heap.size ≤ k ∧ k < w2.heap.size) (w2.alloc (.cells #[.int .u8 c.toNat] 5)) w3 j → w.heap.size ≤ j := by
      rintro j (hj | ⟨hj, _⟩)
      · exact Nat.le_trans HS1.out hj.1
      · simp at hj; have := HS1.out; have := HS2.out; omega
    have hB : Below w.heap.size w (w3.drewN nq) := below_drewN (HB2.out.trans (hk3.below (fun j hj => Nat.le_trans HS1.out hj.1) (by have := HS1.out; have := HS2.out; simp; omega))) nq
    obtain ⟨F3, hF3, hd4⟩ : ∃ F3, (∀ j, F3 j → w.heap.size ≤ j) ∧ Dev (w3.drewN nq) F3 g ⟨128, 20, WA.data.toList, s.data.toList, [.wr P Y], -1, 1⟩ := ⟨_, hF3, by rw [HWL.out]; exact hd3.new (below_drewN (Below.refl _ _) nq)⟩
    clear hd3 hk3
    go_wp2_with fail
    refine (image_is hd4 (I := WA) rfl).mono ?_
    rintro e w5 ⟨rfl, hb5⟩
    have hd5 := hd4.new hb5
    have hB5 := hB.trans (hb5.mono hB.size)
    clear hd4 hb5 hB
    go_wp2_with fail
    refine (durable_is hd5 (I := s) rfl).mono ?_
    rintro e w6 ⟨rfl, hb6⟩
    have hd6 := hd5.new hb6
    have hB6 := hB5.trans (hb6.mono hB5.size)
    clear hd5 hb6 hB5
    go_wp2_with fail
    refine dtrunc_go hd6 Q (by show Q ≤ 20; omega) (fun h => absurd (show (-1 : Int) = 0 from h) (by decide)) ?_ (by show -9223372036854775808 ≤ (-1 : Int); decide) (by show (-1 : Int) ≤ 9223372036854775807; decide) (by show 1 ≤ 4294967296; omega)
    intro _ w7 hd7 hk7
    have hB7 := hB6.trans (hk7.below hF3 hB6.size)
    have hF8 : ∀ j, Grow F3 w6 w7 j → w.heap.size ≤ j := by
      rintro j (hj | ⟨hj, _⟩)
      · exact hF3 j hj
      · exact Nat.le_trans hB6.size hj
    obtain ⟨F8, hF8, hd8⟩ : ∃ F8, (∀ j, F8 j → w.heap.size ≤ j) ∧ Dev w7.drew F8 g ⟨128, 20, I4.data.toList, s.data.toList, [.wr P Y, .tr Q], -1, 2⟩ := ⟨_, hF8, by rw [HIL.out]; exact hd7.new ((Below.refl _ _).drew)⟩
    have hB8 : Below w.heap.size w w7.drew := hB7.drew
    have hall : allOn 128 [.wr P Y, .tr Q] s.data.toList = I4.data.toList := by
      rw [HIL.out, HWL.out]; rfl
    have HALL := Lib.hid hall
    clear hall hd7 hk7 hd6 hB6 hB7 hF3
    go_wp2_with fail
    go_region_held3 (fun _ => True) (exact trivial) (first
      | (go_at_call 18
         (with_reducible refine (image_is hd8 (I := I4) rfl).mono ?_)
         rintro e wa ⟨rfl, hba⟩
         replace hd8 := hd8.new hba
         replace hB8 := hB8.trans (hba.mono hB8.size)
         clear hba)
      | (go_at_call 15
         (with_reducible refine (pending_is hd8 (n := 2) rfl).mono ?_)
         rintro e wa ⟨rfl, rfl⟩)
      | (go_at_call 17
         (with_reducible refine (sync_is hd8 (fun h => absurd (show (-1 : Int) = 0 from h) (by decide)) (by show -9223372036854775808 ≤ (-1 : Int); decide) (by show (-1 : Int) ≤ 9223372036854775807; decide) (by show 2 ≤ 4294967296; omega) HALL.out).mono ?_)
         rintro e wa ⟨rfl, hd9, hk9⟩
         have hB9 := hB8.trans (hk9.below hF8 hB8.size)
         clear hd8 hB8 hk9)
      | (go_at_call 20
         (with_reducible refine (durable_is hd9 (I := I4) rfl).mono ?_)
         rintro e wa ⟨rfl, hba⟩
         replace hd9 := hd9.new hba
         replace hB9 := hB9.trans (hba.mono hB9.size)
         clear hba)
      | (go_at_call 18
         (with_reducible refine (image_is hd9 (I := I4) rfl).mono ?_)
         rintro e wa ⟨rfl, hba⟩
         replace hd9 := hd9.new hba
         replace hB9 := hB9.trans (hba.mono hB9.size)
         clear hba)
      | (go_at_call 15
         (with_reducible refine (pending_is hd9 (n := 0) rfl).mono ?_)
         rintro e wa ⟨rfl, rfl⟩))
    all_goals (go_wp2_with fail; go_ret)
    all_goals exact ⟨rfl, hB9⟩
end Go.Proofs.Ytmkejkmgpigmhaa
