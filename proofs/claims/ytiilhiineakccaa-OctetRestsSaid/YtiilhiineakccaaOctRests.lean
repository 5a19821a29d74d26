/-
  The walk of the statement OctetRests (what is read in parts is what is read at once): from every start, at every argument, it returns true and changes no block that was there before.
-/
import Derived.Test.YtiilhiineakccaaOctLaw
import Derived.Laws.Concat
import Derived.Lib.Strings
namespace Go.Proofs.Ytiilhiineakccaa
open Go.RowKit Go.Lib

set_option maxRecDepth 100000 in
set_option maxHeartbeats 1600000 in
theorem rests_walk (a0 : ByteArray) (a1 : Option Addr) (len1 cap1 : Nat) (z1 : List Int) (w : World) (w0 : a0.size ≤ maxLen) (w1 : IsRow .i64 w a1 len1 cap1 z1) :
    Calls Try.prog 7 #[.string a0, .slice a1 len1 cap1] w fun e w' => e = .returned (.bool true) ∧ Below w.heap.size w w' := by
  obtain ⟨hr0, hlc, hcm, hll, hwf⟩ := w1.reads
  generalize hzs : z1.take len1 = zs at *
  unfold maxLen at hcm w0
  have R0 := Lib.hid hr0
  have WF := Lib.hid hwf
  clear w1 hr0 hwf hzs hll
  by_cases h3 : a0.size ≤ 300 ∧ len1 ≤ 40
  · obtain ⟨h3, h4⟩ := h3
    go_enter Try.func7, Try.ntmps7
    go_wp2_with fail
    refine (lives_any w).mono ?_
    rintro e w1 ⟨rfl, hb1⟩
    go_wp2_with fail
    refine (new_any' a0 w1).mono ?_
    rintro e w2 ⟨rfl, r2, hb2, hl2⟩
    have hb2' : Below w.heap.size w w2 := hb1.trans (hb2.mono hb1.size)
    have hg : w.heap.size ≤ w1.heap.size := hb1.size
    clear hb2 hb1 hl2
    generalize w1.heap.size = g at *
    go_wp2_with fail
    go_loopw [6, 7] (fun v i wr => ∃ k p : Nat, k ≤ len1 ∧ p ≤ a0.size ∧ i = .int .i64 k ∧ v = .string (a0.extract 0 p) ∧ IsRd wr g (a0.extract p a0.size) ∧ Below w.heap.size w wr) (fun _ i _ => len1 - (intOf i).toNat)
    case atStart => exact ⟨0, 0, Nat.zero_le _, Nat.zero_le _, rfl, by simp; rfl, by simpa using r2, hb2'⟩
    case round =>
      obtain ⟨k, p, hk, hp, rfl, rfl, hrd, hbr⟩ := hrel
      by_cases hlt : k < len1
      · obtain ⟨ad, z, rfl, hab, hz, hc⟩ := int_at R0.out hlt
        have hcr := cell_in hc hbr hab
        have HC := Lib.hid hc
        clear hc
        have hzb := bounds_i64 (WF.out z (List.mem_of_getElem? hz))
        have HZ := Lib.hid hz
        clear hz
        go_wp2_with fail
        refine (rest_any hrd).mono ?_
        rintro e w' ⟨rfl, rfl⟩
        have hRs : (a0.extract p a0.size).size = a0.size - p := by simp
        have hGs : (a0.extract 0 p).size = p := by simp; omega
        have hG0 : a0.extract 0 p ++ a0.extract p a0.size = a0 := by rw [ext_app _ _ _ hp, ext_all]
        have hemp : a0.extract 0 p ++ (⟨#[]⟩ : ByteArray) = a0.extract 0 p := by show _ ++ ByteArray.empty = _; simp
        by_cases hz0 : z < 0
        · go_wp2_with (first
            | (go_at_call 13; refine (rest_any hrd).mono ?_; rintro e w' ⟨rfl, rfl⟩)
            | (go_at_call 12; refine (left_any hrd).mono ?_; rintro e w' ⟨rfl, rfl⟩)
            | (go_at_call 11; refine (bytes_arg hrd z hz0).mono ?_; rintro e w' ⟨rfl, rfl⟩))
          go_roundw
          case rel => exact ⟨k + 1, p, by omega, hp, by go_num, by simp, hrd, hbr⟩
          case measure => simp [intOf]; omega
        · by_cases hz1 : ((a0.extract p a0.size).size : Int) < z
          · have hz2 : (a0.size : Int) - p < z := by omega
            go_wp2_with (first
            | (go_at_call 13; refine (rest_any hrd).mono ?_; rintro e w' ⟨rfl, rfl⟩)
            | (go_at_call 12; refine (left_any hrd).mono ?_; rintro e w' ⟨rfl, rfl⟩)
            | (go_at_call 11; refine (bytes_more hrd z hz1).mono ?_; rintro e w' ⟨rfl, rfl⟩))
            go_roundw
            case rel => exact ⟨k + 1, p, by omega, hp, by go_num, by simp, hrd, hbr⟩
            case measure => simp [intOf]; omega
          · obtain ⟨m, rfl⟩ := Int.eq_ofNat_of_zero_le (show 0 ≤ z by omega)
            have hm : m ≤ (a0.extract p a0.size).size := by omega
            have e1 := ext_ext a0 p m (by omega)
            have e2 := ext_rest a0 p m (by omega)
            have e3 := ext_app a0 p (p + m) (by omega)
            have e4 : a0.extract 0 (p + m) ++ a0.extract (p + m) a0.size = a0 := by rw [ext_app _ _ _ (by omega), ext_all]
            go_wp2_with fail
            refine (bytes_ok' hrd m hm).mono ?_
            rintro e w3 ⟨rfl, hrd3, hg3⟩
            rw [e2] at hrd3
            rw [e1]
            have hbr3 : Below w.heap.size w w3 := hbr.trans (below_of_grown hg3 hg hbr.size)
            have hc3 := cell_in HC.out hbr3 hab
            clear hcr hrd hg3 hbr
            go_wp2_with (first
            | (go_at_call 13; refine (rest_any hrd3).mono ?_; rintro e w' ⟨rfl, rfl⟩)
            | (go_at_call 12; refine (left_any hrd3).mono ?_; rintro e w' ⟨rfl, rfl⟩))
            go_roundw
            case rel => exact ⟨k + 1, p + m, by omega, by omega, by go_num, by simp, hrd3, hbr3⟩
            case measure => simp [intOf]; omega
      · have ZA := zero_any a0 wr w0
        clear hrd
        go_wp2_with fail
        go_loop [11, 12] (fun v i => ∃ j : Nat, j ≤ a0.size ∧ i = .int .i64 j ∧ v = .bool (zeros (a0.data.toList.take j))) (fun _ i => a0.size - (intOf i).toNat)
        case atStart => exact ⟨0, Nat.zero_le _, rfl, rfl⟩
        case round =>
          obtain ⟨j, hj, rfl, rfl⟩ := hrel
          by_cases hj2 : j < a0.size
          · have hsn := zeros_snoc (a0.data.toList.take j) a0[j]
            have hts := take_snoc a0.data.toList j (by simpa using hj2)
            rw [getElem_toList a0 j hj2] at hts
            rw [← hts] at hsn
            have HS := Lib.hid hsn
            clear hsn hts
            rcases hzb : zeros (a0.data.toList.take j) with _ | _
            · go_wp2
              go_round
              case rel => exact ⟨j + 1, by omega, by go_num, by rw [HS.out, hzb]; rfl⟩
              case measure => simp [intOf]; omega
            · go_wp2
              go_round
              case rel => exact ⟨j + 1, by omega, by go_num, by rw [HS.out, hzb]; simp [byte_eq0]⟩
              case measure => simp [intOf]; omega
          · obtain rfl : j = a0.size := by omega
            go_wp2_with fail
            refine ZA.mono ?_
            rintro e w' ⟨rfl, rfl⟩
            rw [List.take_of_length_le (by simp)]
            go_wp2_with fail
            go_ret
            exact ⟨rfl, hbr⟩
  · have h3' : 300 < a0.size ∨ 40 < len1 := by omega
    rcases h3' with h3' | h3'
    · go_enter Try.func7, Try.ntmps7
      go_wp2_with fail
      refine (lives_any w).mono ?_
      rintro e w1 ⟨rfl, hb1⟩
      go_wp2_with fail
      go_ret
      exact ⟨rfl, hb1⟩
    · by_cases h5 : 300 < a0.size
      · go_enter Try.func7, Try.ntmps7
        go_wp2_with fail
        refine (lives_any w).mono ?_
        rintro e w1 ⟨rfl, hb1⟩
        go_wp2_with fail
        go_ret
        exact ⟨rfl, hb1⟩
      · go_enter Try.func7, Try.ntmps7
        go_wp2_with fail
        refine (lives_any w).mono ?_
        rintro e w1 ⟨rfl, hb1⟩
        go_wp2_with fail
        go_ret
        exact ⟨rfl, hb1⟩
end Go.Proofs.Ytiilhiineakccaa
