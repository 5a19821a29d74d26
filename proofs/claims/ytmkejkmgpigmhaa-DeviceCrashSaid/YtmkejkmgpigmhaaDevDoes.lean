/-
  Contracts of what DeviceScript and DeviceCrash call: a text as a page, what is gone through at all; each with its conditions in its own statement.
-/
import Derived.Test.YtmkejkmgpigmhaaDevRefCrash
namespace Go.Proofs.Ytmkejkmgpigmhaa
open Go.RowKit
open Go.Lib hiding intOf
set_option linter.unusedVariables false
set_option linter.unusedSimpArgs false

/-- A text as a page. -/
def fillB (s : ByteArray) : ByteArray := s.extract 0 (min s.size 128) ++ zs (128 - min s.size 128)
theorem fillB_size (s : ByteArray) : (fillB s).size = 128 := by
  unfold fillB
  rw [ByteArray.size_append, ByteArray.size_extract, zs_size]
  omega
theorem filled_any (s : ByteArray) (w : World) (hs : s.size ≤ maxLen) :
    Calls Try.prog 45 #[.string s] w fun e w' => e = .returned (.string (fillB s)) ∧ Below w.heap.size w w' := by
  unfold maxLen at hs
  obtain ⟨q, hq⟩ : ∃ q, q = min s.size 128 := ⟨_, rfl⟩
  obtain ⟨T, hT⟩ : ∃ T, T = s.extract 0 q := ⟨_, rfl⟩
  have hTs : T.size = q := by rw [hT, ByteArray.size_extract]; omega
  have HF := Lib.hid (show fillB s = T ++ zs (128 - q) by unfold fillB; rw [hT, hq])
  have e1 : min (s.size : Int) 128 = (q : Int) := by omega
  obtain ⟨d, hd⟩ : ∃ d, d = 128 - q := ⟨_, rfl⟩
  rw [← hd] at HF
  have hq2 : q ≤ 128 := by omega
  have hqs : q ≤ s.size := by omega
  have e2 : (128 : Int) - (T.size : Int) = (d : Int) := by omega
  have hmk := run_make_bytes (P := Try.prog) 57 5 Try.underlying57 infoU8r d (by omega) w
  have cv := conv_zs (MRow.of_made w 5 d)
  have hc : ¬ (9223372036854775807 < T.size + (zs d).size) := by rw [zs_size]; omega
  have hb : Below w.heap.size w (w.alloc (.cells (madeCells #[.int .u8 0] d) 5)) := (Below.refl _ _).alloc (Nat.le_refl _) _
  have HB := Lib.hid hb
  have HT := Lib.hid hT
  have HTS := Lib.hid hTs
  have HD := Lib.hid hd
  clear hb hT hTs hq hd
  go_enter Try.func45, Try.ntmps45
  go_upto_region 2 with fail
  rw [← HT.out]
  go_wp2_with fail
  go_ret
  exact ⟨by rw [HF.out]; rfl, HB.out⟩
/-- A call of a script. -/
structure Act3 where
  kind : Int
  n : Nat
  block : ByteArray
  kA : Option Addr
  kn : Nat
  kc : Nat
  keep : List Int
  at_ : Int
/-- The cells of the call that lies at p. -/
structure ActAt (w : World) (p : Addr) (a : Act3) : Prop where
  c0 : w.cell? p = some (.int .i64 a.kind)
  c1 : w.cell? ⟨p.block, p.off + 1, none⟩ = some (.int .u32 a.n)
  c2 : w.cell? ⟨p.block, p.off + 2, none⟩ = some (.string a.block)
  c3 : w.cell? ⟨p.block, p.off + 3, none⟩ = some (.slice a.kA a.kn a.kc)
  c4 : w.cell? ⟨p.block, p.off + 4, none⟩ = some (.int .i64 a.at_)
structure ActOk (w : World) (B : Nat) (a : Act3) : Prop where
  n : a.n ≤ 4294967295
  block : a.block.size ≤ maxLen
  keep : Reads w B 1 a.kA a.kn (a.keep.map (Value.int .i64))
  kn : a.kn ≤ 17592186044416
  lo : -9223372036854775808 ≤ a.at_
  hi : a.at_ ≤ 9223372036854775807
/-- The slice value '.slice A n c' reads as these calls, below block B. -/
def Acts (w : World) (B : Nat) (A : Option Addr) (n : Nat) (l : List Act3) : Prop :=
  l.length = n ∧ (∀ a ∈ l, ActOk w B a) ∧ (0 < n → ∃ ad, A = some ad ∧ ad.block < B ∧ ∀ j a, l[j]? = some a → ActAt w (ad.add (j * 5)) a)
section
variable {w w' : World} {B n : Nat} {A : Option Addr} {l : List Act3}
theorem ActAt.below {p : Addr} {a : Act3} (h : ActAt w p a) (hb : Below B w w') (hp : p.block < B) : ActAt w' p a :=
  ⟨(hb.cell hp).trans h.c0, (hb.cell (p := ⟨p.block, p.off + 1, none⟩) hp).trans h.c1, (hb.cell (p := ⟨p.block, p.off + 2, none⟩) hp).trans h.c2, (hb.cell (p := ⟨p.block, p.off + 3, none⟩) hp).trans h.c3, (hb.cell (p := ⟨p.block, p.off + 4, none⟩) hp).trans h.c4⟩
theorem ActOk.below {a : Act3} (h : ActOk w B a) (hb : Below B w w') : ActOk w' B a := { h with keep := h.keep.below hb }
theorem Acts.below (h : Acts w B A n l) (hb : Below B w w') : Acts w' B A n l :=
  ⟨h.1, fun a ha => (h.2.1 a ha).below hb, fun hn => by
    obtain ⟨ad, e, h1, h2⟩ := h.2.2 hn
    exact ⟨ad, e, h1, fun j a hj => (h2 j a hj).below hb (by rw [block_add]; exact h1)⟩⟩
theorem Acts.at_ (h : Acts w B A n l) {k : Nat} (hk : k < n) : ∃ ad a, A = some ad ∧ ad.block < B ∧ l[k]? = some a ∧ ActAt w (ad.add (k * 5)) a ∧ ActOk w B a := by
  obtain ⟨ad, e, hb, hc⟩ := h.2.2 (by omega)
  have hl : k < l.length := by rw [h.1]; exact hk
  exact ⟨ad, l[k], e, hb, List.getElem?_eq_getElem hl, hc k _ (List.getElem?_eq_getElem hl), h.2.1 _ (List.getElem_mem hl)⟩
end

set_option maxRecDepth 100000 in
set_option maxHeartbeats 1600000 in
theorem light_any {w : World} {A : Option Addr} {n : Nat} {l : List Act3} (c : Nat) (s : ByteArray) (h : Acts w w.heap.size A n l) (hn : n ≤ maxLen) :
    Calls Try.prog 26 #[.string s, .slice A n c] w fun e w' => ∃ b, e = .returned (.bool b) ∧ (b = true → s.size ≤ 1500 ∧ n ≤ 30) ∧ Below w.heap.size w w' := by
  unfold maxLen at hn
  go_enter Try.func26, Try.ntmps26
  go_wp2_with fail
  go_loopw [5, 6] (fun t i wr => ∃ (j : Nat) (z : Int), j ≤ n ∧ i = .int .i64 j ∧ t = .int .i64 z ∧ Hid (Below w.heap.size w wr)) (fun _ i _ => n - (RowKit.intOf i).toNat)
  case atStart => exact ⟨0, 0, Nat.zero_le _, rfl, rfl, Below.refl _ _⟩
  case round =>
    obtain ⟨j, z, hj, rfl, rfl, HB⟩ := hrel
    have h1 := h.below HB.out
    by_cases hlt : j < n
    · obtain ⟨ad, a, rfl, _, _, ha, hok⟩ := h1.at_ hlt
      have a2 := ha.c2
      have a3 := ha.c3
      have b0 : (0 : Int) ≤ j := by omega
      have b1 : (j : Int) < n := by omega
      go_wp2_with fail
      go_region
      all_goals (go_wp2_with fail; go_roundw)
      all_goals first
        | (case rel => exact ⟨j + 1, _, by omega, by go_num, rfl, HB.out.drew⟩)
        | (case measure => simp [RowKit.intOf]; omega)
    · obtain rfl : j = n := by omega
      by_cases h1 : s.size ≤ 1500
      · by_cases h2 : j ≤ 30
        · by_cases h3 : z ≤ 3000
          · go_wp2_with fail
            go_ret
            exact ⟨_, rfl, fun _ => ⟨h1, h2⟩, HB.out⟩
          · go_wp2_with fail
            go_ret
            exact ⟨.inl rfl, HB.out⟩
        · go_wp2_with fail
          go_ret
          exact ⟨rfl, HB.out⟩
      · go_wp2_with fail
        go_ret
        exact ⟨rfl, HB.out⟩
end Go.Proofs.Ytmkejkmgpigmhaa
