/-
  The walk of the statement DeviceFuses (a fuse allows as many operations as it says): from every start, at every argument, it returns true and changes no block that was there before.
-/
import Derived.Test.YtmkejkmgpigmhaaDevLaw
namespace Go.Proofs.Ytmkejkmgpigmhaa
open Go.RowKit
open Go.Lib hiding intOf
set_option linter.unusedVariables false
set_option linter.unusedSimpArgs false

theorem dwrite_no {w : World} {F : Nat → Prop} {g : Nat} {S : DevS} (h : Dev w F g S) (n : Nat) (b : ByteArray) (hb : b.size = S.size) (hn : n < S.cap) (hf : S.fuse = 0) (hops : S.ops ≤ 4294967296) :
    Calls Try.prog 13 #[.pointer (some ⟨g, 0, none⟩), .int .u32 n, .string b] w fun e w' => e = .returned (.int .i64 8) ∧ Below w.heap.size w w' :=
  dwrite_go h n b hb hn (fun _ w' hb' => ⟨rfl, hb'⟩) (fun h' => absurd hf h') (by rw [hf]; decide) (by rw [hf]; decide) hops
theorem dwrite_yes {w : World} {F : Nat → Prop} {g : Nat} {S : DevS} (h : Dev w F g S) (n : Nat) (b : ByteArray) (hb : b.size = S.size) (hn : n < S.cap) (hf : S.fuse ≠ 0) (hlo : -9223372036854775808 ≤ S.fuse) (hhi : S.fuse ≤ 9223372036854775807) (hops : S.ops ≤ 4294967296) :
    Calls Try.prog 13 #[.pointer (some ⟨g, 0, none⟩), .int .u32 n, .string b] w fun e w' => e = .returned (.int .i64 0) ∧ Dev w' (Grow F w w') g { S with img := bWrite S.size n b.data.toList S.img, pend := S.pend ++ [.wr n b], fuse := burn S.fuse, ops := S.ops + 1 } ∧ Kept F w w' :=
  dwrite_go h n b hb hn (fun h' => absurd h' hf) (fun _ w' h1 h2 => ⟨rfl, h1, h2⟩) hlo hhi hops

/-- The device behind k writes. -/
def FuseAt (w : World) (g : Nat) (f k : Nat) (wr : World) : Prop :=
  ∃ F S, Dev wr F g S ∧ S.size = 128 ∧ S.cap = 20 ∧ S.fuse = ((f - min k f : Nat) : Int) ∧ S.ops = min k f ∧ S.pend.length = min k f ∧ allOn 128 S.pend S.dur = S.img ∧ (∀ j, F j → w.heap.size ≤ j) ∧ Below w.heap.size w wr

set_option maxHeartbeats 3200000 in
set_option maxRecDepth 100000 in
theorem fuses_walk (x : Int) (a : Option Addr) (len cap : Nat) (zs : List Int) (w : World) (hx : (Lit.int .i64 x).wf = true) (hz : IsRow .u32 w a len cap zs) :
    Calls Try.prog 7 #[.int .i64 x, .slice a len cap] w fun e w' => e = .returned (.bool true) ∧ Below w.heap.size w w' := by
  have hr := hz.reads
  obtain ⟨f, hf⟩ : ∃ f : Nat, x % ((32 : Nat) : Int) = (f : Int) := ⟨(x % 32).toNat, by omega⟩
  have hfl : f < 32 := by omega
  obtain ⟨y, hy⟩ : ∃ y, y = reps ⟨#[122]⟩ 128 := ⟨_, rfl⟩
  have hys : y.size = 128 := by rw [hy, reps_lit_size]
  have HX := Lib.hid hx
  have HZ := Lib.hid hz
  have HR := Lib.hid hr
  have HY := Lib.hid hy
  have HYS := Lib.hid hys
  have HF := Lib.hid hf
  clear hx hz hr hy hys hf
  go_enter Try.func7, Try.ntmps7
  go_wp2_with fail
  refine (lives_any w).mono ?_
  rintro e w1 ⟨rfl, hb1⟩
  by_cases h30 : 30 < len
  · have h30' : (30 : Int) < len := by omega
    go_wp2_with fail
    go_ret
    exact ⟨rfl, hb1⟩
  · have h30' : ¬ (30 : Int) < len := by omega
    have hp := pick_any x 32 w1 (by decide) (by decide)
    rw [HF.out] at hp
    have hn := dnew_ok 128 20 ⟨#[]⟩ w1 (by decide) (by decide) (by decide) (by decide)
    go_wp2_with fail
    refine hp.mono ?_
    rintro e w' ⟨rfl, rfl⟩
    go_wp2_with fail
    refine hn.mono ?_
    rintro e w2 ⟨g, rfl, hd, hb2⟩
    go_wp2_with fail
    refine (dfuse_any hd f).mono ?_
    rintro e w3 ⟨rfl, hd3, hk3⟩
    have hb3 : Below w.heap.size w w3 := (hb1.trans (hb2.mono hb1.size)).trans (hk3.below (fun k hk => Nat.le_trans hb1.size hk.1) (Nat.le_trans hb1.size hb2.size))
    have hst : FuseAt w g f 0 w3 := ⟨_, _, hd3, rfl, rfl, by simp, by simp, by simp, by simp [allOn], fun j hj => Nat.le_trans hb1.size hj.1, hb3⟩
    have HS := Lib.hid hst
    clear hst hb3 hd3 hk3 hd hb2 hb1 hp hn h30
    go_wp2_with fail
    go_loopw [7, 8] (fun d i wr => ∃ k : Nat, k ≤ len ∧ i = .int .i64 k ∧ d = .int .i64 (min k f : Nat) ∧ Hid (FuseAt w g f k wr)) (fun _ i _ => len - (RowKit.intOf i).toNat)
    case atStart => exact ⟨0, Nat.zero_le _, rfl, by simp, HS⟩
    case round =>
      clear HS
      obtain ⟨k, hk, rfl, rfl, HS⟩ := hrel
      obtain ⟨F, S, hd, e1, e2, e3, e4, e5, e6, hF, hb⟩ := HS.out
      obtain ⟨d, hdd⟩ : ∃ d, d = min k f := ⟨_, rfl⟩
      rw [← hdd] at e3 e4 e5 ⊢
      by_cases hlt : k < len
      · obtain ⟨ad, z, rfl, hab, hzz, hc⟩ := int_at HR.out.1 hlt
        have hzw := bounds_u32 (HR.out.2.2.2.2 z (List.mem_of_getElem? hzz))
        obtain ⟨q, hq⟩ : ∃ q : Nat, z % 20 = (q : Int) := ⟨(z % 20).toNat, by omega⟩
        have hq20 : q < 20 := by omega
        have hqt : Int.tmod z 20 = (q : Int) := by rw [Int.tmod_eq_emod_of_nonneg hzw.1]; exact hq
        have hz0 : 0 ≤ z := hzw.1
        have hi := dimage_any hd
        clear hzz hzw
        go_wp2_with fail
        refine hi.mono ?_
        rintro e w4 ⟨rfl, hb4⟩
        have hd4 := hd.new hb4
        have hc4 : w4.cell? (ad.add k) = some (.int .u32 z) := cell_in (B := w.heap.size) ((hb.cell (by rw [block_add]; exact hab)).trans hc) (hb4.mono hb.size) hab
        have b0 : (0 : Int) ≤ k := by omega
        have b1 : (k : Int) < len := by omega
        have hd5 := DevAt.drew hd4
        obtain ⟨sz, cp, img, dur, pend, fu, op⟩ := S
        simp only at e1 e2 e3 e4 e5 e6
        subst e1 e2 e3 e4
        have E5 := Lib.hid e5
        have E6 := Lib.hid e6
        have HD := Lib.hid hdd
        have HB := Lib.hid hb
        have HB4 := Lib.hid hb4
        have HFF := Lib.hid hF
        have hop : op ≤ 4294967296 := by omega
        have t2 : ∀ W : World, Calls Try.prog 10 #[.string ⟨#[122]⟩, .int .i64 128] W fun e w' => e = .returned (.string y) ∧ W = w' := fun W => by
          have := times_any ⟨#[122]⟩ 128 W (by decide) (by decide)
          rw [← HY.out] at this
          exact this
        clear e5 e6 hdd hb hb4 hF hi hd hd4 hc
        by_cases hlt2 : op < f
        · have hdf : (op : Int) < f := by omega
          have hfu : ((f - op : Nat) : Int) ≠ 0 := by omega
          have hw := dwrite_yes hd5 q y HYS.out hq20 hfu (by show -9223372036854775808 ≤ ((f - op : Nat) : Int); omega) (by show ((f - op : Nat) : Int) ≤ 9223372036854775807; omega) hop
          have HFU := Lib.hid hfu
          clear hfu
          go_wp2_with fail
          go_region_with (first
            | (go_at_call 10; (with_reducible refine (t2 _).mono ?_); rintro e w' ⟨rfl, rfl⟩)
            | (go_at_call 13; (with_reducible refine hw.mono ?_); rintro e w5 ⟨rfl, hd6, hk6⟩))
          all_goals
            go_wp2_with fail
            go_roundw
            case rel =>
              have hk' : op = min k f := HD.out
              refine ⟨k + 1, by omega, by go_num, by rw [show min (k + 1) f = op + 1 by omega]; go_num, ?_⟩
              refine Lib.hid ⟨_, _, hd6, rfl, rfl, ?_, ?_, ?_, ?_, ?_, ?_⟩
              · show burn ((f - op : Nat) : Int) = _
                unfold burn
                rw [if_pos (by omega)]
                omega
              · show op + 1 = _; omega
              · show (pend ++ [_]).length = _; rw [List.length_append, E5.out]; show op + 1 = _; omega
              · show allOn 128 (pend ++ [_]) dur = _
                rw [allOn_snoc, E6.out]; rfl
              · rintro j (hj | ⟨hj, _⟩)
                · exact HFF.out j hj
                · have := HB.out.size; have := HB4.out.size; have hj' : w4.heap.size ≤ j := hj; omega
              · exact ((HB.out.trans (HB4.out.mono HB.out.size)).drew).trans (hk6.below (fun j hj => HFF.out j hj) (by have := HB.out.size; have := HB4.out.size; show w.heap.size ≤ w4.heap.size; omega))
            case measure => simp [RowKit.intOf]; omega
        · have hdf : ¬ (op : Int) < f := by omega
          have hfu : ((f - op : Nat) : Int) = 0 := by omega
          have hw := dwrite_no hd5 q y HYS.out hq20 hfu hop
          have HFU := Lib.hid hfu
          clear hfu
          go_wp2_with fail
          go_region_with (first
            | (go_at_call 10; (with_reducible refine (t2 _).mono ?_); rintro e w' ⟨rfl, rfl⟩)
            | (go_at_call 13; (with_reducible refine hw.mono ?_); rintro e w5 ⟨rfl, hb6⟩; have hd6 := hd5.new hb6))
          all_goals
            go_wp2_with (go_at_call 18; refine (dimage_any hd6).mono ?_; rintro e w6 ⟨rfl, hb7⟩)
            go_roundw
            case rel =>
              have hk' : op = min k f := HD.out
              refine ⟨k + 1, by omega, by go_num, by rw [show min (k + 1) f = op by omega], ?_⟩
              have hd7 := hd6.new hb7
              refine Lib.hid ⟨_, _, hd7, rfl, rfl, ?_, ?_, ?_, E6.out, HFF.out, ?_⟩
              · show ((f - op : Nat) : Int) = _; omega
              · show op = _; omega
              · show pend.length = _; rw [E5.out]; omega
              · have s1 := HB.out.size
                have s2 : wr.heap.size ≤ w4.heap.size := HB4.out.size
                have s3 : w4.heap.size ≤ w5.heap.size := hb6.size
                exact (((HB.out.trans (HB4.out.mono s1)).drew).trans (hb6.mono (by show w.heap.size ≤ w4.heap.size; omega))).trans (hb7.mono (by omega))
            case measure => simp [RowKit.intOf]; omega
      · obtain rfl : k = len := by omega
        obtain ⟨sz, cp, img, dur, pend, fu, op⟩ := S
        simp only at e1 e2 e3 e4 e5 e6
        subst e1 e2 e3 e4
        have E5 := Lib.hid e5
        have E6 := Lib.hid e6
        have HD := Lib.hid hdd
        have HB := Lib.hid hb
        have HFF := Lib.hid hF
        have hop : op ≤ 4294967296 := by omega
        have h1 := dops_any hd
        have h2 := dpending_any hd
        rw [show (⟨128, 20, img, dur, pend, ((f - op : Nat) : Int), op⟩ : DevS).pend.length = op from e5] at h2
        have h3 := dfuse_any hd (-1)
        clear e5 e6 hdd hb hF hlt
        go_wp2_with fail
        refine h1.mono ?_
        rintro e w' ⟨rfl, rfl⟩
        go_wp2_with fail
        refine h2.mono ?_
        rintro e w' ⟨rfl, rfl⟩
        go_wp2_with fail
        refine h3.mono ?_
        rintro e w2 ⟨rfl, hd2, hk2⟩
        go_wp2_with fail
        have hsy := dsync_yes hd2 (fun h => absurd (show (-1 : Int) = 0 from h) (by decide)) (by show -9223372036854775808 ≤ (-1 : Int); decide) (by show (-1 : Int) ≤ 9223372036854775807; decide) hop
        refine hsy.mono ?_
        rintro e w3 ⟨rfl, hd3, hk3⟩
        have hdu := ddurable_any hd3
        rw [show (⟨128, 20, img, allOn 128 pend dur, [], burn (-1), op + 1⟩ : DevS).dur = img from E6.out] at hdu
        go_wp2_with fail
        refine hdu.mono ?_
        rintro e w4 ⟨rfl, hb4⟩
        have hd4 := hd3.new hb4
        go_wp2_with fail
        refine (dimage_any hd4).mono ?_
        rintro e w5 ⟨rfl, hb5⟩
        have hd5 := hd4.new hb5
        go_wp2_with fail
        refine (dops_any hd5).mono ?_
        rintro e w' ⟨rfl, rfl⟩
        go_wp2_with fail
        go_ret
        have s1 := HB.out.size
        have s2 : wr.heap.size ≤ w2.heap.size := hk2.size
        have s3 : w2.heap.size ≤ w3.heap.size := hk3.size
        have s4 := hb4.size
        exact ⟨rfl, (((HB.out.trans (hk2.below (fun j hj => HFF.out j hj) s1)).trans (hk3.below (fun j hj => HFF.out j hj) (by omega))).trans (hb4.mono (by omega))).trans (hb5.mono (by omega))⟩
end Go.Proofs.Ytmkejkmgpigmhaa
