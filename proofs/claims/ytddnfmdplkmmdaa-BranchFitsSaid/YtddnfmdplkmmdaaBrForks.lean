/-
  Contract of package branch's reader: so many forks, valid, with zero bytes behind; or the panic.
-/
import Derived.Test.YtddnfmdplkmmdaaBrFork
namespace Go.Proofs.Ytddnfmdplkmmdaa
open Go.RowKit
open Go.Lib hiding intOf
set_option linter.unusedVariables false
set_option linter.unusedSimpArgs false
attribute [local go_sem ↓] Go.wp_at_zero Go.wp_at_succ

theorem grown_own {a b c : World} {r r' : Option Nat} (h1 : a.grownBy b r) (h2 : b.grownBy c r') (h : ∀ k, r' = some k → a.heap.size ≤ k) : a.grownBy c r :=
  ⟨h2.os.trans h1.os, h2.tape.trans h1.tape, h2.output.trans h1.output, Nat.le_trans h1.size h2.size, fun k hk hne => (h2.block k (Nat.lt_of_lt_of_le hk h1.size) (fun he => by have := h k he.symm; omega)).trans (h1.block k hk hne)⟩
def forksPost (B : Nat) (o : Option (List Fk)) (e : Ending) (w' : World) : Prop := match o with
  | none => DiesB e
  | some l => ∃ A n c, e = .returned (.slice A n c) ∧ Reads w' w'.heap.size 2 A n (fkc l) ∧ n ≤ c ∧ c ≤ maxLen ∧ ∀ ad, A = some ad → B ≤ ad.block
set_option maxRecDepth 100000 in
set_option maxHeartbeats 12800000 in
theorem bforks_tot {w : World} {g : Nat} {bd : ByteArray} (h : IsRd w g bd) (hs : bd.size ≤ 100000) (ct : Int) :
    Calls Try.prog 33 #[.agg #[.pointer (some ⟨g, 0, none⟩)], .int .i64 ct] w fun e w' => w.grownBy w' (some g) ∧ forksPost w.heap.size (forksF ct bd.data.toList) e w' := by
  obtain ⟨i0, hi0, hz0, hz1, hz2⟩ := info_parts infoFk
  have Hbd := Lib.hid hs
  obtain ⟨w0, hw0⟩ : ∃ x, x = w.alloc (.cells #[.pointer (some ⟨g, 0, none⟩)] 60) := ⟨_, rfl⟩
  have Bx := Lib.hid (show Blk w0 w.heap.size 60 #[.pointer (some ⟨g, 0, none⟩)] by rw [hw0]; exact Blk.new _ _ _)
  have HF := Lib.hid (show IsRd w0 g bd by rw [hw0]; exact Blk.alloc h _)
  have HG := Lib.hid (show w.grownBy w0 (some g) by rw [hw0]; exact World.grownBy_alloc _ _ _)
  have hgl := Lib.hid (Blk.lt h)
  clear h hs
  go_enter Try.func33, Try.ntmps33
  go_wp2_with fail
  rw [← hw0]
  clear hw0
  go_loopw [5, 7] (fun v i wr => ∃ (k : Nat) (A : Option Addr) (c : Nat) (l : List Fk) (r : List UInt8) (s : ByteArray), k ≤ ct.toNat ∧ i = .int .i64 k ∧ v = .slice A k c ∧ Hid (parseF k bd.data.toList = some (l, r)) ∧ Hid (s.data.toList = r) ∧ Hid (IsRd wr g s) ∧ Hid (wr.ownsRow (w.heap.size + 1) 35 2 (.slice A k c) k (fkc l)) ∧ Hid (Blk wr w.heap.size 60 #[.pointer (some ⟨g, 0, none⟩)]) ∧ Hid (w.grownBy wr (some g))) (fun _ i _ => ct.toNat - (intOf i).toNat)
  case atStart => exact ⟨0, none, 0, [], _, bd, Nat.zero_le _, rfl, rfl, Lib.hid rfl, Lib.hid rfl, HF, Lib.hid (World.ownsRow_nil _ _ _ _), Bx, HG⟩
  case round =>
    clear HF HG Bx
    obtain ⟨k, A, c, l, r, s, hk, rfl, rfl, HPr, HSr, HF, HO, Bx, HG⟩ := hrel
    have hsz := parseF_size HPr.out
    rw [size_list] at hsz
    have hk9 : k ≤ 100000 := by
      have h2 := five_le l
      rw [parseF_len HPr.out] at h2
      have h3 := Hbd.out
      omega
    have hss : s.size ≤ 100000 := by
      have h1 := HSr.out
      have h2 := size_list s
      rw [h1] at h2
      have h3 := Hbd.out
      omega
    clear hsz
    have b0 := Bx.out.cell 0
    simp at b0
    by_cases hlt : (k : Int) < ct
    · have hkc : k + 1 ≤ ct.toNat := by omega
      go_wp2_with fail
      refine (bfork_tot HF.out hss).mono ?_
      rintro e w2 ⟨hg, hp⟩
      rw [HSr.out] at hp
      have HG2 := Lib.hid (grown_trans HG.out hg)
      rcases hsf : stepF r with _ | ⟨b, r'⟩
      · rw [hsf] at hp
        have HE := Lib.hid (show forksF ct bd.data.toList = none by
          have h1 := parseF_none (parseF_stop HPr.out hsf) (ct.toNat - (k + 1))
          rw [show k + 1 + (ct.toNat - (k + 1)) = ct.toNat by omega] at h1
          rw [forksF, h1])
        have he : e = .panicked [{ v := .iface 54 (.agg #[]), recovered := false }] := hp
        subst he
        refine ⟨rfl, HG2.out, ?_⟩
        rw [HE.out]
        exact rfl
      · rw [hsf] at hp
        obtain ⟨s', rfl, hf, hr'⟩ := hp
        have HP4 := Lib.hid (parseF_step HPr.out hsf)
        have HS4 := Lib.hid hr'
        replace HO := Lib.hid (HO.out.kept hg (own_apart HO.out (by have := hgl.out; omega)))
        replace Bx := Lib.hid (Blk.grown Bx.out hg (by intro h; injection h with h; have := hgl.out; omega))
        have HF2 := Lib.hid hf
        obtain ⟨nm, v3⟩ := b
        clear hf hr' hsf hg HF b0
        have HA := Lib.hid (HO.out.alloc (.cells #[.string nm, .int .u32 v3] 35))
        have hgl2 : w.heap.size + 1 ≤ w2.heap.size := Blk.lt Bx.out
        have HF3 := Lib.hid (show IsRd (w2.alloc (.cells #[.string nm, .int .u32 v3] 35)) g s' from Blk.alloc HF2.out _)
        have Bx3 := Lib.hid (Bx.out.alloc (.cells #[.string nm, .int .u32 v3] 35))
        have HG3 := Lib.hid (grown_trans HG2.out (World.grownBy_alloc w2 (.cells #[.string nm, .int .u32 v3] 35) _))
        go_upto_region 5 with (at_builtin; refine wpList_append_any _ rfl (.tmp 9) (.tmp 12) _ rfl (w.heap.size + 1) 35 i0 _ 2 24 Try.underlying30 hi0 hz0 hz1 hz2 rfl (by omega) _ k _ rfl HA.out (w2.heap.size + 1) (some ⟨w2.heap.size, 0, none⟩) 1 1 (Fk.cells ⟨nm, v3⟩) rfl (reads_own (n := 1) (Blk.new _ _ _) rfl) (fk_one _) (by unfold maxLen; omega) (by omega) (by simp; omega) ?_; intro v5 w5 hown4 hg4 hat)
        clear hat
        rw [fkc_snoc] at hown4
        obtain ⟨A4, c4, rfl, _, _, _⟩ := own_form hown4
        have HO4 := Lib.hid hown4
        have HF4 := Lib.hid (show IsRd w5 g s' from Blk.grown HF3.out hg4 (own_ne HA.out (by have := hgl.out; omega)))
        have Bx4 := Lib.hid (Blk.grown Bx3.out hg4 (own_ne HA.out (Nat.lt_succ_self _)))
        have HG4 := Lib.hid (grown_own HG3.out hg4 (fun j hj => by have h1 := (HA.out.lt j hj).1; omega))
        clear hown4 hg4 HA HF3 Bx3 HG3 HG2 HO HF2 HG Bx
        go_wp2_with fail
        go_roundw
        case rel =>
          first
            | exact ⟨k + 1, A4, c4, _, r', s', by omega, by go_num, rfl, HP4, HS4, HF4, HO4, Bx4, HG4⟩
            | ((repeat apply Exists.intro); exact ⟨⟨k + 1, A4, c4, _, r', s', by omega, by go_num, rfl, HP4, HS4, HF4, HO4, Bx4, HG4⟩, rfl⟩)
        case measure => simp [intOf]; omega
    · have hkc : k = ct.toNat := by omega
      obtain ⟨A', c', he, h1, h2, _⟩ := own_form HO.out
      injection he with e1 e2 e3
      subst e1
      subst e3
      have HR := Lib.hid (Reads.of_own HO.out)
      have HC := Lib.hid h1
      have HMx := Lib.hid h2
      have HLo := Lib.hid (show ∀ ad, A = some ad → w.heap.size ≤ ad.block from fun ad h => by
        have := (HO.out.lt ad.block (by rw [h]; rfl)).1
        omega)
      have HQ := Lib.hid (show forksF ct bd.data.toList = if mayF l && zeros r then some l else none by rw [forksF, ← hkc, HPr.out])
      clear h1 h2 HO hkc
      go_wp2_with fail
      refine (bvalid_any A k c l _ HR.out (by omega)).mono ?_
      rintro e w2 ⟨rfl, hb⟩
      replace HR := Lib.hid ((HR.out.below hb).more hb.size)
      replace HF := Lib.hid (show IsRd w2 g s from Blk.below HF.out hb (Blk.lt HF.out))
      replace Bx := Lib.hid (Bx.out.below hb Bx.out.lt)
      replace HG := Lib.hid (grown_trans HG.out (grown_below' hb))
      clear hb b0
      have b0 := Bx.out.cell 0
      simp at b0
      have HZ := fun w => zero_any s w (by unfold maxLen; omega)
      rw [HSr.out] at HZ
      rcases hm : mayF l with _ | _
      · rw [hm] at HQ
        clear hm
        go_wp2_with fail
        refine (bneed_no _).mono ?_
        rintro e w3 ⟨rfl, rfl⟩
        refine ⟨rfl, HG.out, ?_⟩
        rw [HQ.out]
        exact rfl
      · rw [hm] at HQ
        rcases hzr : zeros r with _ | _
        · rw [hzr] at HQ HZ
          clear hm hzr
          go_wp2_with (first | (go_at_call 48; refine (rest_any HF.out).mono ?_; rintro e w' ⟨rfl, rfl⟩) | (go_at_call 47; refine (HZ _).mono ?_; rintro e w' ⟨rfl, rfl⟩))
          refine (bneed_no _).mono ?_
          rintro e w3 ⟨rfl, rfl⟩
          refine ⟨rfl, HG.out, ?_⟩
          rw [HQ.out]
          exact rfl
        · rw [hzr] at HQ HZ
          clear hm hzr
          go_wp2_with (first | (go_at_call 48; refine (rest_any HF.out).mono ?_; rintro e w' ⟨rfl, rfl⟩) | (go_at_call 47; refine (HZ _).mono ?_; rintro e w' ⟨rfl, rfl⟩) | (go_at_call 30; refine (bneed_yes _).mono ?_; rintro e w' ⟨rfl, rfl⟩))
          go_ret
          refine ⟨HG.out, ?_⟩
          rw [HQ.out]
          exact ⟨A, k, c, rfl, HR.out, HC.out, HMx.out, HLo.out⟩
theorem Reads.keep_from {w w' : World} {B size n lo : Nat} {A : Option Addr} {xs : List Value} (h : Reads w B size A n xs) (hA : ∀ ad, A = some ad → lo ≤ ad.block) (hk : ∀ p : Addr, lo ≤ p.block → w'.cell? p = w.cell? p) : Reads w' B size A n xs :=
  ⟨h.1, fun hn => by
    obtain ⟨ad, e, hb, hc⟩ := h.2 hn
    exact ⟨ad, e, hb, fun j u hu => (hk _ (by rw [block_add]; exact hA ad e)).trans (hc j u hu)⟩⟩
end Go.Proofs.Ytddnfmdplkmmdaa
