/-
  Contract of package leaf's times, at the reader of items: so many items, or an error.
-/
import Derived.Test.YtinojpcjbjjlbaaJ35
namespace Go.Proofs.Ytinojpcjbjjlbaa
open Go.RowKit
open Go.Lib hiding intOf
set_option linter.unusedVariables false
set_option linter.unusedSimpArgs false
attribute [local go_sem ↓] Go.wp_at_zero Go.wp_at_succ

def timesPost (B : Nat) (o : Option (List It × List UInt8)) (e : Ending) (w' : World) : Prop := match o with
  | none => ∃ x : Int, e = .returned (.tuple #[.slice none 0 0, .int .i64 x]) ∧ x ≠ 0
  | some (l, _) => ∃ A n c, e = .returned (.tuple #[.slice A n c, .int .i64 0]) ∧ Reads w' w'.heap.size 5 A n (itc l) ∧ n ≤ c ∧ c ≤ maxLen ∧ ∀ ad, A = some ad → B ≤ ad.block
set_option maxRecDepth 100000 in
set_option maxHeartbeats 12800000 in
theorem ltimes_any {w : World} {g : Nat} {bd : ByteArray} (h : IsRd w g bd) (hs : bd.size ≤ 100000) (ct : Int) :
    Calls Try.prog 28 #[.int .i64 ct, .func (.func 30) #[.agg #[.pointer (some ⟨g, 0, none⟩)]] #[]] w fun e w' => w.grownBy w' (some g) ∧ timesPost w.heap.size (parseC ct.toNat bd.data.toList) e w' := by
  have eg1 : ∀ args w, (callFunc 30 args).run Try.prog w = .ok (.enter 30 args) w := fun _ _ => by first | rfl | kernel_rfl
  obtain ⟨i0, hi0, hz0, hz1, hz2⟩ := info_parts infoIt
  obtain ⟨hz, hi⟩ := zero_of_info infoItz
  have HI := Lib.hid hi
  clear hi
  have Hbd := Lib.hid hs
  have HF := Lib.hid h
  have HG := Lib.hid (World.grownBy.refl w (some g))
  have hgl := Lib.hid (Blk.lt h)
  clear h hs
  go_enter Try.func28, Try.ntmps28
  go_wp2_with fail
  go_loopw [6, 7, 8, 10] (fun v _ _ i wr => ∃ (k : Nat) (A : Option Addr) (c : Nat) (l : List It) (r : List UInt8) (s : ByteArray), k ≤ ct.toNat ∧ i = .int .i64 k ∧ v = .slice A k c ∧ Hid (parseC k bd.data.toList = some (l, r)) ∧ Hid (s.data.toList = r) ∧ Hid (IsRd wr g s) ∧ Hid (wr.ownsRow w.heap.size 35 5 (.slice A k c) k (itc l)) ∧ Hid (w.grownBy wr (some g))) (fun _ _ _ i _ => ct.toNat - (intOf i).toNat)
  case atStart => exact ⟨0, none, 0, [], _, bd, Nat.zero_le _, rfl, rfl, Lib.hid rfl, Lib.hid rfl, HF, Lib.hid (World.ownsRow_nil _ _ _ _), HG⟩
  case round =>
    clear HF HG
    obtain ⟨k, A, c, l, r, s, hk, rfl, rfl, HPr, HSr, HF, HO, HG⟩ := hrel
    have hsz := parseC_size HPr.out
    rw [size_list] at hsz
    have hk9 : k ≤ 100000 := by
      have h2 := three_le l
      rw [parseC_len HPr.out] at h2
      have h3 := Hbd.out
      omega
    have hss : s.size ≤ 100000 := by
      have h1 := HSr.out
      have h2 := size_list s
      rw [h1] at h2
      have h3 := Hbd.out
      omega
    clear hsz
    by_cases hlt : (k : Int) < ct
    · have hkc : k + 1 ≤ ct.toNat := by omega
      go_wp2_with fail
      refine (lread_item HF.out hss).mono ?_
      rintro e w2 ⟨b, x, s', rfl, hf, hg, hok⟩
      have HG2 := Lib.hid (grown_trans HG.out hg)
      unfold itemOk at hok
      rw [HSr.out] at hok
      replace HO := Lib.hid (HO.out.kept hg (own_apart HO.out hgl.out))
      have HF2 := Lib.hid hf
      obtain ⟨ky, vl, ov, ln, hd⟩ := b
      dsimp only
      rcases hsf : stepC r with _ | ⟨b, r'⟩
      · rw [hsf] at hok
        have hx1 : (x != 0) = true := by simpa using hok
        have hx2 : (x == 0) = false := by simpa using hok
        have HX := Lib.hid hok
        have HE := Lib.hid (show parseC ct.toNat bd.data.toList = none by
          have h1 := parseC_none (parseC_stop HPr.out hsf) (ct.toNat - (k + 1))
          rw [show k + 1 + (ct.toNat - (k + 1)) = ct.toNat by omega] at h1
          exact h1)
        have HG3 := Lib.hid (grown_trans HG2.out (World.grownBy_alloc w2 (.cells #[.string ky, .string vl, .bool ov, .int .i64 ln, .int .u32 hd] 35) _))
        clear hok hsf hf hg HF
        go_wp2_with fail
        go_ret2
        refine ⟨HG3.out, ?_⟩
        rw [HE.out]
        exact ⟨x, rfl, HX.out⟩
      · rw [hsf] at hok
        obtain ⟨rfl, hb, hr'⟩ := hok
        have HP4 := Lib.hid (parseC_step HPr.out hsf)
        rw [hb] at HP4
        have HS4 := Lib.hid hr'
        clear hf hb hr' hsf hg HF
        obtain ⟨w3, hw3⟩ : ∃ x, x = w2.alloc (.cells #[.string ky, .string vl, .bool ov, .int .i64 ln, .int .u32 hd] 35) := ⟨_, rfl⟩
        have M := Lib.hid (show Blk w3 w2.heap.size 35 #[.string ky, .string vl, .bool ov, .int .i64 ln, .int .u32 hd] by rw [hw3]; exact Blk.new _ _ _)
        replace HG2 := Lib.hid (show w.grownBy w3 (some g) by rw [hw3]; exact grown_trans HG2.out (World.grownBy_alloc _ _ _))
        replace HO := Lib.hid (show w3.ownsRow w.heap.size 35 5 (.slice A k c) k (itc l) by rw [hw3]; exact HO.out.alloc _)
        replace HF2 := Lib.hid (show IsRd w3 g s' by rw [hw3]; exact Blk.alloc HF2.out _)
        go_upto_region 7 with fail
        rw [← hw3]
        clear hw3
        generalize w2.heap.size = gM at *
        have m0 := M.out.cell 0
        have m1 := M.out.cell 1
        have m2 := M.out.cell 2
        have m3 := M.out.cell 3
        have m4 := M.out.cell 4
        simp at m0 m1 m2 m3 m4
        have HA := Lib.hid (HO.out.alloc (.cells #[.string ky, .string vl, .bool ov, .int .i64 ln, .int .u32 hd] 35))
        have hgl2 : w.heap.size ≤ w3.heap.size := HG2.out.size
        have HF3 := Lib.hid (show IsRd (w3.alloc (.cells #[.string ky, .string vl, .bool ov, .int .i64 ln, .int .u32 hd] 35)) g s' from Blk.alloc HF2.out _)
        have HG3 := Lib.hid (grown_trans HG2.out (World.grownBy_alloc w3 (.cells #[.string ky, .string vl, .bool ov, .int .i64 ln, .int .u32 hd] 35) _))
        go_upto_region 8 with (at_builtin; refine wpList_append_any _ rfl (.tmp 20) (.tmp 22) _ rfl w.heap.size 35 i0 _ 5 56 Try.underlying30 hi0 hz0 hz1 hz2 rfl (by omega) _ k _ rfl HA.out (w3.heap.size + 1) (some ⟨w3.heap.size, 0, none⟩) 1 1 (It.cells ⟨ky, vl, ov, ln, hd⟩) rfl (reads_own (n := 1) (Blk.new _ _ _) rfl) (it_one _) (by unfold maxLen; omega) (by omega) (by simp; omega) ?_; intro v5 w5 hown4 hg4 hat)
        clear hat
        rw [itc_snoc] at hown4
        obtain ⟨A4, c4, rfl, _, _, _⟩ := own_form hown4
        have HO4 := Lib.hid hown4
        have HF4 := Lib.hid (show IsRd w5 g s' from Blk.grown HF3.out hg4 (own_ne HA.out hgl.out))
        have HG4 := Lib.hid (gr_own HG3.out hg4 (fun j hj => (HA.out.lt j hj).1))
        clear hown4 hg4 HA HF3 HG3 HG2 HO HF2 HG M m0 m1 m2 m3 m4
        go_wp2_with fail
        go_roundw
        case rel =>
          first
            | exact ⟨k + 1, A4, c4, _, r', s', by omega, by go_num, rfl, HP4, HS4, HF4, HO4, HG4⟩
            | ((repeat apply Exists.intro); exact ⟨⟨k + 1, A4, c4, _, r', s', by omega, by go_num, rfl, HP4, HS4, HF4, HO4, HG4⟩, rfl⟩)
        case measure => simp [intOf]; omega
    · have hkc : k = ct.toNat := by omega
      obtain ⟨A', c', he, h1, h2, _⟩ := own_form HO.out
      injection he with e1 e2 e3
      subst e1
      subst e3
      have HR := Lib.hid (Reads.of_own HO.out)
      have HC := Lib.hid h1
      have HMx := Lib.hid h2
      have HLo := Lib.hid (show ∀ ad, A = some ad → w.heap.size ≤ ad.block from fun ad h => (HO.out.lt ad.block (by rw [h]; rfl)).1)
      have HQ := Lib.hid (show parseC ct.toNat bd.data.toList = some (l, r) by rw [← hkc]; exact HPr.out)
      clear h1 h2 HO hkc
      go_wp2_with fail
      go_ret2
      refine ⟨HG.out, ?_⟩
      rw [HQ.out]
      exact ⟨A, k, c, rfl, HR.out, HC.out, HMx.out, HLo.out⟩
end Go.Proofs.Ytinojpcjbjjlbaa
