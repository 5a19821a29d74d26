/-
  The walk of the statement OctetBack (what is appended is read again, in order): from every start, at every argument, it returns true and changes no block that was there before.
-/
import Derived.Test.YtiilhiineakccaaOctCalls
import Derived.Deep.RegionHeld3
import Derived.Lib.MinMax
namespace Go.Proofs.Ytiilhiineakccaa
open Go.RowKit Go.Lib

/-- A number of bytes, from 1 to 8. -/
def wdt (s : Int) : Nat := 1 + (s % 8).toNat
theorem wdt_le (s : Int) : 1 ≤ wdt s ∧ wdt s ≤ 8 := by unfold wdt; omega
/-- What the first k numbers are written as. -/
def enc (ls ss : List Int) : Nat → List UInt8
  | 0 => []
  | k + 1 => enc ls ss k ++ leBytes (wdt (ss.getD k 0)) (ls.getD k 0).toNat
theorem enc_len (ls ss : List Int) (k : Nat) : (enc ls ss (k + 1)).length = (enc ls ss k).length + wdt (ss.getD k 0) := by simp [enc, leB_len]
theorem enc_le (ls ss : List Int) : ∀ k, (enc ls ss k).length ≤ 8 * k
  | 0 => by simp [enc]
  | k + 1 => by have h := enc_le ls ss k; have := wdt_le (ss.getD k 0); rw [enc_len]; omega
theorem enc_more (ls ss : List Int) (j : Nat) : ∀ d, ∃ t, enc ls ss (j + d) = enc ls ss j ++ t
  | 0 => ⟨[], by simp⟩
  | d + 1 => by
    obtain ⟨t, h⟩ := enc_more ls ss j d
    exact ⟨t ++ leBytes (wdt (ss.getD (j + d) 0)) (ls.getD (j + d) 0).toNat, by rw [← Nat.add_assoc, enc, h, List.append_assoc]⟩
theorem enc_at (ls ss : List Int) (j k : Nat) (h : j < k) :
    (((enc ls ss k).drop (enc ls ss j).length).take (wdt (ss.getD j 0))) = leBytes (wdt (ss.getD j 0)) (ls.getD j 0).toNat ∧ (enc ls ss j).length + wdt (ss.getD j 0) ≤ (enc ls ss k).length := by
  obtain ⟨t, ht⟩ := enc_more ls ss (j + 1) (k - (j + 1))
  rw [show j + 1 + (k - (j + 1)) = k by omega] at ht
  rw [ht, enc]
  refine ⟨?_, by simp [leB_len]⟩
  rw [List.append_assoc, List.drop_left, List.take_append_of_le_length (by simp [leB_len]), List.take_of_length_le (by simp [leB_len])]

theorem wdt_eq (s : Int) : ((wdt s : Nat) : Int) = 1 + s % 8 := by unfold wdt; omega
theorem put_wd (A : Option Addr) (n c num : Nat) (s : Int) (l : List UInt8) (w : World) (hr : Reads w w.heap.size 1 A n (bcells l)) (hn : n + 8 ≤ 140737488355328) :
    Calls Try.prog 15 #[.slice A n c, .int .u64 num, .int .i64 (1 + s % 8)] w fun e w' => ∃ v, e = .returned v ∧ w'.ownsRow w.heap.size 5 1 v (n + wdt s) (bcells (l ++ leBytes (wdt s) num)) ∧ Below w.heap.size w w' := by
  rw [← wdt_eq]
  exact put_yes A n c num (wdt s) l w hr hn (wdt_le s).1 (wdt_le s).2

/-- What is expected of a number of so many bytes. -/
def wanted (num : Nat) (s : Int) : Int := if wdt s < 8 then bits .and .u64 (num : Int) (IntKind.u64.wrap (IntKind.u64.wrap (2 ^ (8 * (1 + s % 8)).toNat) - 1)) else num
theorem wanted_eq (num : Nat) (s : Int) (hnum : num < 18446744073709551616) : wanted num s = (leNat (leBytes (wdt s) num) : Nat) := by
  have hw := wdt_le s
  unfold wanted
  rw [leNat_leBytes_mod]
  by_cases h : wdt s < 8
  · rw [if_pos h, ← wdt_eq, show (8 * ((wdt s : Nat) : Int)).toNat = 8 * wdt s by omega]
    exact mask_u64 num (wdt s) hw.1 h hnum
  · rw [if_neg h, show wdt s = 8 by omega]
    omega
theorem number_wd {w : World} {g : Nat} {s : ByteArray} (h : IsRd w g s) (x : Int) (hn : wdt x ≤ s.size) :
    Calls Try.prog 10 #[.pointer (some ⟨g, 0, none⟩), .int .i64 (1 + x % 8)] w fun e w' => e = .returned (.tuple #[.int .u64 (leNat (s.data.toList.take (wdt x))), .int .i64 0]) ∧ IsRd w' g (s.extract (wdt x) s.size) ∧ w.grownBy w' (some g) := by
  rw [← wdt_eq]
  exact number_ok' h (wdt x) (wdt_le x).1 (wdt_le x).2 hn

set_option maxRecDepth 100000 in
set_option maxHeartbeats 1600000 in
theorem back_walk (a0 : Option Addr) (len0 cap0 : Nat) (z0 : List Int) (a1 : Option Addr) (len1 cap1 : Nat) (z1 : List Int) (w : World) (w0 : IsRow .u64 w a0 len0 cap0 z0) (w1 : IsRow .i64 w a1 len1 cap1 z1) :
    Calls Try.prog 6 #[.slice a0 len0 cap0, .slice a1 len1 cap1] w fun e w' => e = .returned (.bool true) ∧ Below w.heap.size w w' := by
  obtain ⟨hr0, hlc, hcm, hll, hwf⟩ := w0.reads
  obtain ⟨hr1, hlc1, hcm1, hll1, hwf1⟩ := w1.reads
  generalize hls : z0.take len0 = ls at *
  generalize hss : z1.take len1 = ss at *
  unfold maxLen at hcm hcm1
  have R0 := Lib.hid hr0
  have R1 := Lib.hid hr1
  have WF := Lib.hid hwf
  have WF1 := Lib.hid hwf1
  clear w1 w0 hr0 hr1 hwf hwf1 hls hss hll hll1
  by_cases h3 : len0 ≤ 40 ∧ len0 ≤ len1
  · obtain ⟨h3, h4⟩ := h3
    have hd1 : decide ((40 : Int) < len0) = false := by simp; omega
    have hd2 : decide (len1 < len0) = false := by simp; omega
    go_enter Try.func6, Try.ntmps6
    go_wp2_with fail
    refine (lives_any w).mono ?_
    rintro e w1 ⟨rfl, hb1⟩
    go_wp2_with fail
    go_loopw [5, 6] (fun v i wr => ∃ (k : Nat) (A : Option Addr) (c : Nat), k ≤ len0 ∧ i = .int .i64 k ∧ v = .slice A (enc ls ss k).length c ∧ Hid (Reads wr wr.heap.size 1 A (enc ls ss k).length (bcells (enc ls ss k))) ∧ Below w.heap.size w wr) (fun _ i _ => len0 - (intOf i).toNat)
    case atStart => exact ⟨0, none, 0, Nat.zero_le _, rfl, rfl, Reads.none_, hb1⟩
    case round =>
      obtain ⟨k, A, c, hk, rfl, rfl, HR, hbr⟩ := hrel
      have hel := enc_le ls ss k
      by_cases hlt : k < len0
      · obtain ⟨adl, x, rfl, habl, hx, hcx⟩ := int_at R0.out hlt
        obtain ⟨ads, s, rfl, habs, hs, hcs⟩ := int_at R1.out (show k < len1 by omega)
        have hxb := bounds_u64 (WF.out x (List.mem_of_getElem? hx))
        have hsb := bounds_i64 (WF1.out s (List.mem_of_getElem? hs))
        obtain ⟨num, rfl⟩ := Int.eq_ofNat_of_zero_le hxb.1
        have hcx1 := cell_in hcx hbr habl
        have hcs1 := cell_in hcs hbr habs
        have HX := Lib.hid hx
        have HS := Lib.hid hs
        have HCX := Lib.hid hcx
        have HCS := Lib.hid hcs
        clear hcx hcs hx hs
        have hs0 : 0 ≤ s % 8 := by omega
        have hs8 : s % 8 < 8 := by omega
        have hk0 : (0 : Int) ≤ k := by omega
        have hk1 : (k : Int) < len0 := by omega
        have hk2 : (k : Int) < len1 := by omega
        have hsw : IntKind.i64.wrap (1 + s % 8) = 1 + s % 8 := by rw [IntKind.wrap_i64]; omega
        go_wp2_with fail
        go_region_held3 (fun w' => w'.cell? (adl.add k) = some (.int .u64 num) ∧ w'.cell? (ads.add k) = some (.int .i64 s)) (go_keep)
          (first
          | (go_at_call 18; refine (pick_any s 8 _ (by omega) (by omega)).mono ?_; rintro e w' ⟨rfl, rfl⟩)
          | (go_at_call 15; refine (put_wd A (enc ls ss k).length c num s (enc ls ss k) _ HR.out.drew (by omega)).mono ?_; rintro e w3 ⟨v3, rfl, hown3, hb3⟩; have hbr3 := hbr.drew.trans (hb3.mono hbr.size); have hcx3 := cell_in HCX.out hbr3 habl; have hcs3 := cell_in HCS.out hbr3 habs; clear hb3))
        obtain ⟨A3, c3, rfl, _, _, _⟩ := own_form hown3
        have R3 := Lib.hid (Reads.of_own hown3)
        clear hown3 hcx3 hcs3 hcx1 hcs1
        go_wp2
        go_roundw
        case rel =>
          have e1 : ss.getD k 0 = s := by rw [List.getD, HS.out]; rfl
          have e2 : (ls.getD k 0).toNat = num := by rw [List.getD, HX.out]; rfl
          have hv : Value.slice A3 ((enc ls ss k).length + wdt s) c3 = Value.slice A3 (enc ls ss (k + 1)).length c3 := by rw [enc_len, e1]
          have hR : Reads w3 w3.heap.size 1 A3 (enc ls ss (k + 1)).length (bcells (enc ls ss (k + 1))) := by
            rw [enc_len, enc, e1, e2]
            exact R3.out
          first
            | exact ⟨k + 1, A3, c3, by omega, by go_num, hv, hR, hbr3⟩
            | ((repeat apply Exists.intro); exact ⟨⟨k + 1, A3, c3, by omega, by go_num, hv, hR, hbr3⟩, rfl⟩)
        case measure => simp [intOf]; omega
      · obtain rfl : k = len0 := by omega
        have hst := str_of (c := c) HR.out
        have HB := Lib.hid hbr
        clear hbr
        go_wp2_with fail
        refine (new_any' _ wr).mono ?_
        rintro e w2 ⟨rfl, r2, hb2, hl2⟩
        have hbr2 : Below w.heap.size w w2 := HB.out.trans (hb2.mono HB.out.size)
        have hg : w.heap.size ≤ wr.heap.size := HB.out.size
        clear hb2 hl2 HB HR hst hk
        generalize wr.heap.size = g at *
        go_wp2_with fail
        generalize hS : (⟨(enc ls ss k).toArray⟩ : ByteArray) = S at r2
        have hSd : S.data.toList = enc ls ss k := by rw [← hS]
        have hSs : S.size = (enc ls ss k).length := by rw [← hS]; rfl
        have HSD := Lib.hid hSd
        have HSS := Lib.hid hSs
        clear hS hSd hSs hlt
        go_loopw [8] (fun i wr => ∃ j : Nat, j ≤ k ∧ i = .int .i64 j ∧ IsRd wr g (S.extract (enc ls ss j).length S.size) ∧ Below w.heap.size w wr) (fun i _ => k - (intOf i).toNat)
        case atStart => exact ⟨0, Nat.zero_le _, rfl, by simpa [enc] using r2, hbr2⟩
        case round =>
          obtain ⟨j, hj, rfl, hrd, hbr⟩ := hrel
          have hjl := enc_le ls ss j
          by_cases hlt : j < k
          · obtain ⟨adl, x, rfl, habl, hx, hcx⟩ := int_at R0.out hlt
            obtain ⟨ads, s, rfl, habs, hs, hcs⟩ := int_at R1.out (show j < len1 by omega)
            have hxb := bounds_u64 (WF.out x (List.mem_of_getElem? hx))
            have hsb := bounds_i64 (WF1.out s (List.mem_of_getElem? hs))
            obtain ⟨num, rfl⟩ := Int.eq_ofNat_of_zero_le hxb.1
            have hcx1 := cell_in hcx hbr habl
            have hcs1 := cell_in hcs hbr habs
            have e1 : ss.getD j 0 = s := by rw [List.getD, hs]; rfl
            have e2 : (ls.getD j 0).toNat = num := by rw [List.getD, hx]; rfl
            obtain ⟨ht, hle⟩ := enc_at ls ss j k hlt
            rw [e1, e2] at ht
            rw [e1] at hle
            have hsz : (S.extract (enc ls ss j).length S.size).size = S.size - (enc ls ss j).length := by simp
            have HSZ := Lib.hid hsz
            have HT := Lib.hid ht
            have HE := Lib.hid e1
            have hs0 : 0 ≤ s % 8 := by omega
            have hs8 : s % 8 < 8 := by omega
            have hk0 : (0 : Int) ≤ j := by omega
            have hk1 : (j : Int) < k := by omega
            have hk2 : (j : Int) < len1 := by omega
            clear hcx hcs hx hs e1 e2 ht hsz
            have hlen : (S.extract (enc ls ss j).length S.size).size = S.size - (enc ls ss j).length := HSZ.out
            have hq : (max 0 (min ((S.size - (enc ls ss j).length : Nat) : Int) (1 + s % 8) - 1)).toNat = (s % 8).toNat := by have := HSS.out; have := wdt_eq s; omega
            have hq2 : (s % 8).toNat ≤ S.size - (enc ls ss j).length := by have := HSS.out; have := wdt_eq s; omega
            have hwn := wanted_eq num s (by omega)
            have hws : wdt s < 8 ↔ 1 + s % 8 < 8 := by have := wdt_eq s; omega
            have HWN := Lib.hid hwn
            have HWS := Lib.hid hws
            have HQ := Lib.hid hq
            have HQ2 := Lib.hid hq2
            clear hlen hq hwn hws hq2
            by_cases h8 : 1 + s % 8 < 8
            · have hw : wanted num s = bits .and .u64 (num : Int) (IntKind.u64.wrap (IntKind.u64.wrap (2 ^ (8 * (1 + s % 8)).toNat) - 1)) := by unfold wanted; rw [if_pos (HWS.out.2 h8)]
              rw [HWN.out] at hw
              have HW := Lib.hid hw
              clear hw
              go_wp2_with (first | (go_at_call 18; refine (pick_any s 8 _ (by omega) (by omega)).mono ?_; rintro e w' ⟨rfl, rfl⟩) | (go_at_call 13; refine (rest_any hrd).mono ?_; rintro e w' ⟨rfl, rfl⟩) | (go_at_call 12; refine (left_any hrd).mono ?_; rintro e w' ⟨rfl, rfl⟩))
              rw [HQ.out, ← HW.out]
              refine (new_any' _ wr).mono ?_
              rintro e w3 ⟨rfl, r3, hb3, hl3⟩
              have hrd3 : IsRd w3 g (S.extract (enc ls ss j).length S.size) := Blk.below hrd hb3 hrd.lt
              go_wp2_with fail
              refine (number_more r3 (1 + s % 8) (by omega) (by omega) (by have := HQ2.out; simp; omega)).mono ?_
              rintro e w' ⟨rfl, rfl⟩
              go_wp2_with fail
              refine (number_wd hrd3 s (by rw [HSZ.out, HSS.out]; omega)).mono ?_
              rintro e w4 ⟨rfl, hrd4, hg4⟩
              have hdat : (S.extract (enc ls ss j).length S.size).data.toList.take (wdt s) = leBytes (wdt s) num := by
                rw [extract_data, HSD.out, ← HT.out, List.take_take]
                congr 1
                have := HSS.out; omega
              rw [hdat]
              have e5 := ext_rest S (enc ls ss j).length (wdt s) (by have := HSS.out; omega)
              rw [e5] at hrd4
              have hbr4 : Below w.heap.size w w4 := (hbr.trans (hb3.mono hbr.size)).trans (below_of_grown hg4 hg (Nat.le_trans hbr.size hb3.size))
              clear hdat e5 hg4 hrd3 hrd hb3 hbr r3 hl3
              go_wp2
              go_roundw
              case rel => exact ⟨j + 1, by omega, by go_num, by rw [enc_len, HE.out]; exact hrd4, hbr4⟩
              case measure => simp [intOf]; omega
            · have hw : wanted num s = num := by unfold wanted; rw [if_neg (fun h => h8 (HWS.out.1 h))]
              rw [HWN.out] at hw
              have HW := Lib.hid hw
              clear hw
              go_wp2_with (first | (go_at_call 18; refine (pick_any s 8 _ (by omega) (by omega)).mono ?_; rintro e w' ⟨rfl, rfl⟩) | (go_at_call 13; refine (rest_any hrd).mono ?_; rintro e w' ⟨rfl, rfl⟩) | (go_at_call 12; refine (left_any hrd).mono ?_; rintro e w' ⟨rfl, rfl⟩))
              rw [HQ.out, ← HW.out]
              refine (new_any' _ wr).mono ?_
              rintro e w3 ⟨rfl, r3, hb3, hl3⟩
              have hrd3 : IsRd w3 g (S.extract (enc ls ss j).length S.size) := Blk.below hrd hb3 hrd.lt
              go_wp2_with fail
              refine (number_more r3 (1 + s % 8) (by omega) (by omega) (by have := HQ2.out; simp; omega)).mono ?_
              rintro e w' ⟨rfl, rfl⟩
              go_wp2_with fail
              refine (number_wd hrd3 s (by rw [HSZ.out, HSS.out]; omega)).mono ?_
              rintro e w4 ⟨rfl, hrd4, hg4⟩
              have hdat : (S.extract (enc ls ss j).length S.size).data.toList.take (wdt s) = leBytes (wdt s) num := by
                rw [extract_data, HSD.out, ← HT.out, List.take_take]
                congr 1
                have := HSS.out; omega
              rw [hdat]
              have e5 := ext_rest S (enc ls ss j).length (wdt s) (by have := HSS.out; omega)
              rw [e5] at hrd4
              have hbr4 : Below w.heap.size w w4 := (hbr.trans (hb3.mono hbr.size)).trans (below_of_grown hg4 hg (Nat.le_trans hbr.size hb3.size))
              clear hdat e5 hg4 hrd3 hrd hb3 hbr r3 hl3
              go_wp2
              go_roundw
              case rel => exact ⟨j + 1, by omega, by go_num, by rw [enc_len, HE.out]; exact hrd4, hbr4⟩
              case measure => simp [intOf]; omega
          · obtain rfl : j = k := by omega
            have e6 : S.extract (enc ls ss j).length S.size = ⟨#[]⟩ := by rw [← HSS.out]; simp; rfl
            rw [e6] at hrd
            clear e6
            go_wp2_with (first | (go_at_call 13; refine (rest_any hrd).mono ?_; rintro e w' ⟨rfl, rfl⟩) | (go_at_call 12; refine (left_any hrd).mono ?_; rintro e w' ⟨rfl, rfl⟩))
            go_ret
            exact ⟨rfl, hbr⟩
  · have h3' : 40 < len0 ∨ (len0 ≤ 40 ∧ len1 < len0) := by omega
    clear h3
    rcases h3' with h3' | ⟨h3', h4⟩
    · go_enter Try.func6, Try.ntmps6
      go_wp2_with fail
      refine (lives_any w).mono ?_
      rintro e w1 ⟨rfl, hb1⟩
      go_wp2_with fail
      go_ret
      exact ⟨rfl, hb1⟩
    · go_enter Try.func6, Try.ntmps6
      go_wp2_with fail
      refine (lives_any w).mono ?_
      rintro e w1 ⟨rfl, hb1⟩
      go_wp2_with fail
      go_ret
      exact ⟨rfl, hb1⟩
end Go.Proofs.Ytiilhiineakccaa
