/-
  The walk of the statement LeafFits: from every start, at every argument, it returns true and changes no block that was there before.
-/
import Derived.Test.YtinojpcjbjjlbaaJ45
import Derived.Test.YtinojpcjbjjlbaaJ46
import Derived.Test.YtinojpcjbjjlbaaJ26
import Derived.Deep.CutRange
namespace Go.Proofs.Ytinojpcjbjjlbaa
open Go.RowKit
open Go.Lib hiding intOf
set_option linter.unusedVariables false
set_option linter.unusedSimpArgs false
attribute [local go_sem ↓] Go.wp_at_zero Go.wp_at_succ

theorem one8_may {b : It} (h : okIt b = true) : mayP8 512 2 0 [b] = true := by
  have h1 := okIt_one h
  have ha : allOkI [b] = true := allOkI_yes fun j hj => by
    have hj0 : j = 0 := by simp at hj; exact hj
    subst hj0
    rw [okAtI_of (x := b) rfl, h]
    rfl
  have hs : sizeI [b] = oneI b := by simp [sizeI]
  simp only [mayP8, mayI, ha, hs, Bool.and_eq_true, decide_eq_true_eq]
  exact ⟨by decide, ⟨trivial, by simp⟩, by omega, by decide, by decide⟩

set_option maxRecDepth 100000 in
set_option maxHeartbeats 12800000 in
theorem lffits_no (size : Int) (A : Option Addr) (m c : Nat) (l : List It) (k v : ByteArray) (hd : Nat) (w : World) (hr : Reads w w.heap.size 5 A m (itc l)) (hm : m ≤ 2513169434916) (hnr : NearI l) (hl : lightI l = false) :
    Calls Try.prog 7 #[.int .i64 size, .slice A m c, .string k, .string v, .int .u32 hd] w fun e w' => e = .returned (.bool true) ∧ Below w.heap.size w w' := by
  have HR := Lib.hid hr
  have HM := Lib.hid hm
  have HNr := Lib.hid hnr
  have HLi := Lib.hid hl
  clear hr hm hl hnr
  have HB := Lib.hid (Below.refl w.heap.size w)
  go_enter Try.func7, Try.ntmps7
  go_wp2_with fail
  refine (lives8_any _).mono ?_
  rintro e w101 ⟨rfl, hb⟩
  replace HB := Lib.hid (HB.out.trans (hb.mono HB.out.size))
  clear hb
  go_wp2_with fail
  refine (light8_bel A m c l _ (HR.out.below HB.out) (Nat.le_trans HM.out (by decide)) HNr.out).mono ?_
  rintro e w102 ⟨rfl, hb⟩
  replace HB := Lib.hid (HB.out.trans (hb.mono HB.out.size))
  clear hb
  rw [HLi.out]
  go_wp2_with fail
  go_ret
  exact ⟨rfl, HB.out⟩
set_option maxRecDepth 100000 in
set_option maxHeartbeats 12800000 in
theorem lffits_k (size : Int) (A : Option Addr) (m c : Nat) (l : List It) (k v : ByteArray) (hd : Nat) (w : World) (hr : Reads w w.heap.size 5 A m (itc l)) (hm : m ≤ 2513169434916) (hnr : NearI l) (hl : lightI l = true) (hk : 40 < k.size) :
    Calls Try.prog 7 #[.int .i64 size, .slice A m c, .string k, .string v, .int .u32 hd] w fun e w' => e = .returned (.bool true) ∧ Below w.heap.size w w' := by
  have HR := Lib.hid hr
  have HM := Lib.hid hm
  have HNr := Lib.hid hnr
  have HLi := Lib.hid hl
  have hdk : decide ((40 : Int) < k.size) = true := by simp; omega
  have hek : decide (40 < k.size) = true := by simp; omega
  clear hr hm hl hnr hk
  have HB := Lib.hid (Below.refl w.heap.size w)
  go_enter Try.func7, Try.ntmps7
  go_wp2_with fail
  refine (lives8_any _).mono ?_
  rintro e w101 ⟨rfl, hb⟩
  replace HB := Lib.hid (HB.out.trans (hb.mono HB.out.size))
  clear hb
  go_wp2_with fail
  refine (light8_bel A m c l _ (HR.out.below HB.out) (Nat.le_trans HM.out (by decide)) HNr.out).mono ?_
  rintro e w102 ⟨rfl, hb⟩
  replace HB := Lib.hid (HB.out.trans (hb.mono HB.out.size))
  clear hb
  rw [HLi.out]
  go_wp2_with fail
  go_ret
  exact ⟨rfl, HB.out⟩
set_option maxRecDepth 100000 in
set_option maxHeartbeats 12800000 in
theorem lffits_v (size : Int) (A : Option Addr) (m c : Nat) (l : List It) (k v : ByteArray) (hd : Nat) (w : World) (hr : Reads w w.heap.size 5 A m (itc l)) (hm : m ≤ 2513169434916) (hnr : NearI l) (hl : lightI l = true) (hk : ¬ 40 < k.size) (hv : 255 < v.size) :
    Calls Try.prog 7 #[.int .i64 size, .slice A m c, .string k, .string v, .int .u32 hd] w fun e w' => e = .returned (.bool true) ∧ Below w.heap.size w w' := by
  have HR := Lib.hid hr
  have HM := Lib.hid hm
  have HNr := Lib.hid hnr
  have HLi := Lib.hid hl
  have hdk : decide ((40 : Int) < k.size) = false := by simp; omega
  have hek : decide (40 < k.size) = false := by simp; omega
  have hdv : decide ((255 : Int) < v.size) = true := by simp; omega
  have hev : decide (255 < v.size) = true := by simp; omega
  clear hr hm hl hnr hk hv
  have HB := Lib.hid (Below.refl w.heap.size w)
  go_enter Try.func7, Try.ntmps7
  go_wp2_with fail
  refine (lives8_any _).mono ?_
  rintro e w101 ⟨rfl, hb⟩
  replace HB := Lib.hid (HB.out.trans (hb.mono HB.out.size))
  clear hb
  go_wp2_with fail
  refine (light8_bel A m c l _ (HR.out.below HB.out) (Nat.le_trans HM.out (by decide)) HNr.out).mono ?_
  rintro e w102 ⟨rfl, hb⟩
  replace HB := Lib.hid (HB.out.trans (hb.mono HB.out.size))
  clear hb
  rw [HLi.out]
  go_wp2_with fail
  go_ret
  exact ⟨rfl, HB.out⟩
set_option maxRecDepth 100000 in
set_option maxHeartbeats 12800000 in
theorem lffits_main (size : Int) (A : Option Addr) (m c : Nat) (l : List It) (k v : ByteArray) (hd : Nat) (w : World) (hr : Reads w w.heap.size 5 A m (itc l)) (hm : m ≤ 2513169434916) (hnr : NearI l) (hl : lightI l = true) (hk : ¬ 40 < k.size) (hv : ¬ 255 < v.size) (h60 : m ≤ 100) (hsz : sizeI l ≤ 5000) :
    Calls Try.prog 7 #[.int .i64 size, .slice A m c, .string k, .string v, .int .u32 hd] w fun e w' => e = .returned (.bool true) ∧ Below w.heap.size w w' := by
  have HR := Lib.hid hr
  have HM := Lib.hid hm
  have HNr := Lib.hid hnr
  have HLi := Lib.hid hl
  obtain ⟨b0, b1, b2, b3, b4, b5, be, HPb, hbe⟩ : ∃ (b0 b1 : Int) (b2 b3 b4 : Nat) (b5 : ByteArray) (be : Int), (∀ w' : World, Reads w' w'.heap.size 5 A m (itc l) → Calls Try.prog 9 #[.int .i64 4096, .int .u32 2, .int .u64 0, .slice A m c] w' fun e w'' => e = .returned (.tuple #[.agg #[.int .i64 b0, .int .i64 b1, .int .u32 b2, .int .u32 b3, .int .u64 b4, .string b5], .int .i64 be]) ∧ Below w'.heap.size w' w'') ∧ be = (if mayP8 4096 2 0 l = true then 0 else 2) := by
    rcases hy : mayP8 4096 2 0 l with _ | _
    · exact ⟨0, 0, 0, 0, 0, ByteArray.empty, 2, fun w' hr => lpage8_no 4096 2 0 A m c l w' hr (by omega) hnr hy, rfl⟩
    · obtain ⟨z, hzz, _, _, _⟩ := good_nat (by simp only [mayP8, Bool.and_eq_true] at hy; exact hy.1 : goodSize 4096 = true)
      refine ⟨4, m, 2, 0, 0, itemBody z l, 0, fun w' hr => ?_, rfl⟩
      have h := lpage8_yes z 2 0 A m c l w' hr (by omega) (by rw [← hzz]; exact hy)
      rw [← hzz] at h
      exact h
  obtain ⟨a0, a1, a2, a3, a4, a5, ae, HPa, hae⟩ : ∃ (a0 a1 : Int) (a2 a3 a4 : Nat) (a5 : ByteArray) (ae : Int), (∀ w' : World, Reads w' w'.heap.size 5 A m (itc l) → Calls Try.prog 9 #[.int .i64 size, .int .u32 2, .int .u64 0, .slice A m c] w' fun e w'' => e = .returned (.tuple #[.agg #[.int .i64 a0, .int .i64 a1, .int .u32 a2, .int .u32 a3, .int .u64 a4, .string a5], .int .i64 ae]) ∧ Below w'.heap.size w' w'') ∧ ae = (if mayP8 size 2 0 l = true then 0 else 2) := by
    rcases hy : mayP8 size 2 0 l with _ | _
    · exact ⟨0, 0, 0, 0, 0, ByteArray.empty, 2, fun w' hr => lpage8_no size 2 0 A m c l w' hr (by omega) hnr hy, rfl⟩
    · obtain ⟨z, hzz, _, _, _⟩ := good_nat (by simp only [mayP8, Bool.and_eq_true] at hy; exact hy.1 : goodSize size = true)
      refine ⟨4, m, 2, 0, 0, itemBody z l, 0, fun w' hr => ?_, rfl⟩
      have h := lpage8_yes z 2 0 A m c l w' hr (by omega) (by rw [← hzz]; exact hy)
      rw [← hzz] at h
      exact h
  have hdk : decide ((40 : Int) < k.size) = false := by simp; omega
  have hek : decide (40 < k.size) = false := by simp; omega
  have hdv : decide ((255 : Int) < v.size) = false := by simp; omega
  have hev : decide (255 < v.size) = false := by simp; omega
  obtain ⟨SL, hSL⟩ : ∃ s, s = sizeI l := ⟨_, rfl⟩
  have HSL := Lib.hid hSL
  have HSz := Lib.hid (show sizeI l ≤ 9007199254740992 by omega)
  have HSS := Lib.hid (show SL ≤ 5000 by omega)
  have HBE := Lib.hid hbe
  have HAE := Lib.hid hae
  obtain ⟨ln, hln⟩ : ∃ n : Nat, n = 1 + v.size := ⟨_, rfl⟩
  have hlni : (1 : Int) + (v.size : Int) = (ln : Int) := by omega
  obtain ⟨h2, hh2⟩ : ∃ n : Nat, n = 2 + hd % 1000 := ⟨_, rfl⟩
  have hh2i : (2 : Int) + (hd : Int) % 1000 = (h2 : Int) := by omega
  have HH2 := Lib.hid hh2i
  have HLN := Lib.hid hlni
  have hoka : okIt ⟨k, v, false, 0, 0⟩ = true := by
    simp only [okIt, keyF, Bool.false_eq_true, if_false, Bool.and_eq_true, decide_eq_true_eq]
    exact ⟨by omega, by omega, trivial, trivial⟩
  have hokb : okIt ⟨k, ⟨#[]⟩, true, (ln : Int), h2⟩ = true := by
    simp only [okIt, keyF, numB, if_true, Bool.and_eq_true, decide_eq_true_eq]
    exact ⟨by omega, rfl, by omega, by omega, by omega, by omega⟩
  obtain ⟨IA, hIA⟩ : ∃ x, x = [(⟨k, v, false, 0, 0⟩ : It)] := ⟨_, rfl⟩
  obtain ⟨IB, hIB⟩ : ∃ x, x = [(⟨k, ⟨#[]⟩, true, (ln : Int), h2⟩ : It)] := ⟨_, rfl⟩
  have hma : mayP8 512 2 0 IA = true := by rw [hIA]; exact one8_may hoka
  have hmb : mayP8 512 2 0 IB = true := by rw [hIB]; exact one8_may hokb
  obtain ⟨Ya, hYa⟩ : ∃ Y, Y = itemBody 512 IA := ⟨_, rfl⟩
  have hYsa : Ya.size = 488 := by rw [hYa]; exact itemBody_size 512 IA (mayP8_parts hma).2.2.2.1.1
  have HPa1 : ∀ (A : Option Addr) (c : Nat) (w : World), Reads w w.heap.size 5 A 1 (itc IA) → Calls Try.prog 9 #[.int .i64 512, .int .u32 2, .int .u64 0, .slice A 1 c] w fun e w' => e = .returned (.tuple #[.agg #[.int .i64 4, .int .i64 1, .int .u32 2, .int .u32 0, .int .u64 0, .string Ya], .int .i64 0]) ∧ Below w.heap.size w w' := fun A c w hr => by
    rw [hYa]
    exact lpage8_yes 512 2 0 A 1 c IA w hr (by decide) hma
  have HOa : ∀ w : World, Calls Try.prog 11 #[.agg #[.int .i64 4, .int .i64 1, .int .u32 2, .int .u32 0, .int .u64 0, .string Ya]] w (OfPost8 (some IA) w) := fun w => by
    have h := lof8_any 4 1 2 0 0 Ya w (by omega)
    have hrd : readI 4 1 2 0 0 Ya = some IA := by
      have h1 := readI_page hma
      rw [← hYa] at h1
      rw [hIA] at h1 ⊢
      exact h1
    rw [hrd] at h
    exact h
  have HIa := Lib.hid (show NearI IA from allOkI_near (mayP8_parts hma).1)
  have HZa := Lib.hid (show sizeI IA ≤ 9007199254740992 from Nat.le_trans (mayP8_parts hma).2.2.2.1.1 (by decide))
  obtain ⟨Yb, hYb⟩ : ∃ Y, Y = itemBody 512 IB := ⟨_, rfl⟩
  have hYsb : Yb.size = 488 := by rw [hYb]; exact itemBody_size 512 IB (mayP8_parts hmb).2.2.2.1.1
  have HPb1 : ∀ (A : Option Addr) (c : Nat) (w : World), Reads w w.heap.size 5 A 1 (itc IB) → Calls Try.prog 9 #[.int .i64 512, .int .u32 2, .int .u64 0, .slice A 1 c] w fun e w' => e = .returned (.tuple #[.agg #[.int .i64 4, .int .i64 1, .int .u32 2, .int .u32 0, .int .u64 0, .string Yb], .int .i64 0]) ∧ Below w.heap.size w w' := fun A c w hr => by
    rw [hYb]
    exact lpage8_yes 512 2 0 A 1 c IB w hr (by decide) hmb
  have HOb : ∀ w : World, Calls Try.prog 11 #[.agg #[.int .i64 4, .int .i64 1, .int .u32 2, .int .u32 0, .int .u64 0, .string Yb]] w (OfPost8 (some IB) w) := fun w => by
    have h := lof8_any 4 1 2 0 0 Yb w (by omega)
    have hrd : readI 4 1 2 0 0 Yb = some IB := by
      have h1 := readI_page hmb
      rw [← hYb] at h1
      rw [hIB] at h1 ⊢
      exact h1
    rw [hrd] at h
    exact h
  have HIb := Lib.hid (show NearI IB from allOkI_near (mayP8_parts hmb).1)
  have HZb := Lib.hid (show sizeI IB ≤ 9007199254740992 from Nat.le_trans (mayP8_parts hmb).2.2.2.1.1 (by decide))
  have HS1 : ∀ (A : Option Addr) (c : Nat) (w : World), Reads w w.heap.size 5 A 1 (itc IA) → Calls Try.prog 15 #[.slice A 1 c] w fun e w' => e = .returned (.int .i64 (3 + (k.size : Int) + (v.size : Int))) ∧ Below w.heap.size w w' := fun A c w hr => by
    have h := lsize_any A 1 c IA w hr (by decide) HIa.out HZa.out
    have h1 : ((sizeI IA : Nat) : Int) = 3 + (k.size : Int) + (v.size : Int) := by rw [hIA]; simp [sizeI, oneI]
    rw [h1] at h
    exact h
  have HS2 : ∀ (A : Option Addr) (c : Nat) (w : World), Reads w w.heap.size 5 A 1 (itc IB) → Calls Try.prog 15 #[.slice A 1 c] w fun e w' => e = .returned (.int .i64 (10 + (k.size : Int))) ∧ Below w.heap.size w w' := fun A c w hr => by
    have h := lsize_any A 1 c IB w hr (by decide) HIb.out HZb.out
    have h1 : ((sizeI IB : Nat) : Int) = 10 + (k.size : Int) := by rw [hIB]; simp [sizeI, oneI]
    rw [h1] at h
    exact h
  have HIA := Lib.hid hIA
  have HIB := Lib.hid hIB
  have hk40 : k.size ≤ 40 := by omega
  have hv255 : v.size ≤ 255 := by omega
  have H60 := Lib.hid h60
  clear hr hm hl hnr hk hv hsz hSL hbe hae hln hlni hh2 hh2i hoka hokb hIA hIB hma hmb hYa hYb hYsa hYsb h60
  obtain ⟨hz, hi⟩ := zero_of_info infoPg
  have HI := Lib.hid hi
  clear hi
  skip
  have HB := Lib.hid (Below.refl w.heap.size w)
  go_enter Try.func7, Try.ntmps7
  go_wp2_with fail
  refine (lives8_any _).mono ?_
  rintro e w101 ⟨rfl, hb⟩
  replace HB := Lib.hid (HB.out.trans (hb.mono HB.out.size))
  clear hb
  go_wp2_with fail
  refine (light8_bel A m c l _ (HR.out.below HB.out) (Nat.le_trans HM.out (by decide)) HNr.out).mono ?_
  rintro e w102 ⟨rfl, hb⟩
  replace HB := Lib.hid (HB.out.trans (hb.mono HB.out.size))
  clear hb
  rw [HLi.out]
  go_wp2_with fail
  refine (HPb _ ((HR.out.below HB.out).more HB.out.size)).mono ?_
  rintro e w103 ⟨rfl, hb⟩
  replace HB := Lib.hid (HB.out.trans (hb.mono HB.out.size))
  clear hb
  clear HPb
  obtain ⟨w104, hw104⟩ : ∃ x, x = w103.alloc (.cells #[.int .i64 b0, .int .i64 b1, .int .u32 b2, .int .u32 b3, .int .u64 b4, .string b5] 26) := ⟨_, rfl⟩
  have saw104 : w103.heap.size = w103.heap.size := by first | rfl | omega
  have ge_B0 := Lib.hid (show w.heap.size ≤ w103.heap.size from saw104 ▸ HB.out.size)
  replace HB := Lib.hid (show Below w.heap.size w w104 by rw [hw104]; exact HB.out.alloc HB.out.size _)
  have B0 := Lib.hid (show Blk w104 w103.heap.size 26 #[.int .i64 b0, .int .i64 b1, .int .u32 b2, .int .u32 b3, .int .u64 b4, .string b5] by rw [hw104, ← saw104]; exact Blk.new _ _ _)
  have szw104 : w104.heap.size = w103.heap.size + 1 := by rw [hw104]; simp
  clear saw104 szw104
  go_wp2_with fail
  rw [← hw104]
  clear hw104
  generalize w103.heap.size = gB0 at *
  clear B0
  refine (HPa _ ((HR.out.below HB.out).more HB.out.size)).mono ?_
  rintro e w105 ⟨rfl, hb⟩
  replace HB := Lib.hid (HB.out.trans (hb.mono HB.out.size))
  clear hb
  clear HPa
  obtain ⟨w106, hw106⟩ : ∃ x, x = w105.alloc (.cells #[.int .i64 a0, .int .i64 a1, .int .u32 a2, .int .u32 a3, .int .u64 a4, .string a5] 26) := ⟨_, rfl⟩
  have saw106 : w105.heap.size = w105.heap.size := by first | rfl | omega
  have ge_A0 := Lib.hid (show w.heap.size ≤ w105.heap.size from saw106 ▸ HB.out.size)
  replace HB := Lib.hid (show Below w.heap.size w w106 by rw [hw106]; exact HB.out.alloc HB.out.size _)
  have A0 := Lib.hid (show Blk w106 w105.heap.size 26 #[.int .i64 a0, .int .i64 a1, .int .u32 a2, .int .u32 a3, .int .u64 a4, .string a5] by rw [hw106, ← saw106]; exact Blk.new _ _ _)
  have szw106 : w106.heap.size = w105.heap.size + 1 := by rw [hw106]; simp
  clear saw106 szw106
  go_upto_region 7 with fail
  rw [← hw106]
  clear hw106
  generalize w105.heap.size = gA0 at *
  clear A0
  obtain ⟨gb, hgb⟩ : ∃ gb, gb = goodSize size := ⟨_, rfl⟩
  have HGB := Lib.hid hgb
  clear hgb
  go_cut [15] from 52 to 62 (fun g wx => g = .bool gb ∧ wx = w106)
  case first =>
    by_cases h1 : 128 ≤ size
    rotate_left
    · have hg : gb = false := by rw [HGB.out]; simp [goodSize, h1]
      have hz1 : decide ((128 : Int) ≤ size) = false := decide_eq_false h1
      subst hg
      go_wp2_with fail
      go_meet
      exact ⟨rfl, rfl⟩
    by_cases h2 : size ≤ 4096
    rotate_left
    · have hg : gb = false := by rw [HGB.out]; simp [goodSize, h2]
      have hz1 : decide ((128 : Int) ≤ size) = true := decide_eq_true h1
      have hz2 : decide (size ≤ 4096) = false := decide_eq_false h2
      subst hg
      go_wp2_with fail
      go_meet
      exact ⟨rfl, rfl⟩
    obtain ⟨z, rfl⟩ := Int.eq_ofNat_of_zero_le (by omega : 0 ≤ size)
    have hz1 : decide ((128 : Int) ≤ z) = true := by simp; omega
    have hz2 : decide ((z : Int) ≤ 4096) = true := by simp; omega
    have hz3 : decide (128 ≤ z) = true := by simp; omega
    have hz4 : decide (z ≤ 4096) = true := by simp; omega
    by_cases h3 : z % 64 = 0
    · have hg : gb = true := by rw [HGB.out]; simp [goodSize]; omega
      have hz5 : (z % 64 == 0) = true := by simpa using h3
      have hz6 : ((z : Int) % 64 == 0) = true := by simp; omega
      subst hg
      go_wp2_with fail
      go_meet
      exact ⟨rfl, rfl⟩
    · have hg : gb = false := by rw [HGB.out]; simp [goodSize]; omega
      have hz5 : (z % 64 == 0) = false := by simpa using h3
      have hz6 : ((z : Int) % 64 == 0) = false := by simp; omega
      subst hg
      go_wp2_with fail
      go_meet
      exact ⟨rfl, rfl⟩
  case rest =>
  obtain ⟨rfl, rfl⟩ := hcut
  go_upto_region 8 with fail
  go_cut [85] from 63 to 85 (fun v wx => v = .bool false ∧ Hid (Below w.heap.size w wx))
  case first =>
    cases gb
    · have hae : ae = 2 := by rw [HAE.out, mayP8, ← HGB.out]; rfl
      subst hae
      rcases hbig : mayP8 4096 2 0 l with _ | _
      · have hbe : be = 2 := by rw [HBE.out, hbig]; rfl
        subst hbe
        clear hbig
        go_wp2_with fail
        go_meet
        exact ⟨rfl, HB⟩
      · have hbe : be = 0 := by rw [HBE.out, hbig]; rfl
        subst hbe
        clear hbig
        go_wp2_with fail
        go_meet
        exact ⟨rfl, HB⟩
    obtain ⟨z, rfl, hz1, hz2, _⟩ := good_nat HGB.out.symm
    rcases hbig : mayP8 4096 2 0 l with _ | _
    · have hbe : be = 2 := by rw [HBE.out, hbig]; rfl
      subst hbe
      clear hbig
      go_wp2_with fail
      go_meet
      exact ⟨rfl, HB⟩
    have hbe : be = 0 := by rw [HBE.out, hbig]; rfl
    subst hbe
    have hmi : mayI l = true := by simp only [mayP8, Bool.and_eq_true] at hbig; exact hbig.2.1
    have hzs : (z : Int) - 24 = ((z - 24 : Nat) : Int) := by omega
    by_cases hfit : SL ≤ z - 24
    · have hae : ae = 0 := by
        have h4 : mayP8 (z : Int) 2 0 l = true := by
          rw [mayP8, ← HGB.out, hmi, ← HSL.out, decide_eq_true (show (SL : Int) ≤ (z : Int) - 24 by omega)]
          rfl
        rw [HAE.out, h4]; rfl
      subst hae
      have hf1 : decide ((SL : Int) ≤ (z : Int) - 24) = true := by simp; omega
      have hf2 : decide (SL ≤ z - 24) = true := by simp; omega
      have hf3 : decide ((SL : Int) ≤ ((z - 24 : Nat) : Int)) = true := by simp; omega
      clear hbig hmi hfit
      go_wp2_with fail
      refine (lsize_any A m c l _ ((HR.out.below HB.out).more HB.out.size) (Nat.le_trans H60.out (by decide)) HNr.out HSz.out).mono ?_
      rw [← HSL.out]
      rintro e we ⟨rfl, hb⟩
      replace HB := Lib.hid (HB.out.trans (hb.mono HB.out.size))
      have hss := HSS.out
      clear hb
      go_wp2_with fail
      go_meet
      exact ⟨rfl, HB⟩
    · have hae : ae = 2 := by
        have h4 : mayP8 (z : Int) 2 0 l = false := by
          rw [mayP8, ← HGB.out, hmi, ← HSL.out, decide_eq_false (show ¬ (SL : Int) ≤ (z : Int) - 24 by omega)]
          rfl
        rw [HAE.out, h4]; rfl
      subst hae
      have hf1 : decide ((SL : Int) ≤ (z : Int) - 24) = false := by simp; omega
      have hf2 : decide (SL ≤ z - 24) = false := by simp; omega
      have hf3 : decide ((SL : Int) ≤ ((z - 24 : Nat) : Int)) = false := by simp; omega
      clear hbig hmi hfit
      go_wp2_with fail
      refine (lsize_any A m c l _ ((HR.out.below HB.out).more HB.out.size) (Nat.le_trans H60.out (by decide)) HNr.out HSz.out).mono ?_
      rw [← HSL.out]
      rintro e we ⟨rfl, hb⟩
      replace HB := Lib.hid (HB.out.trans (hb.mono HB.out.size))
      have hss := HSS.out
      clear hb
      go_wp2_with fail
      go_meet
      exact ⟨rfl, HB⟩
  case rest =>
  obtain ⟨rfl, HBn⟩ := hcut
  replace HB := HBn
  clear HBn
  have hlni := HLN.out
  have hh2i := HH2.out
  obtain ⟨v108, hv108⟩ : ∃ x, x = wc.alloc (.cells #[.string k, .string v, .bool false, .int .i64 0, .int .u32 0] 35) := ⟨_, rfl⟩
  have sav108 : wc.heap.size = wc.heap.size := by first | rfl | omega
  have ge_Ia := Lib.hid (show w.heap.size ≤ wc.heap.size from sav108 ▸ HB.out.size)
  replace HB := Lib.hid (show Below w.heap.size w v108 by rw [hv108]; exact HB.out.alloc HB.out.size _)
  have Ia := Lib.hid (show Blk v108 wc.heap.size 35 #[.string k, .string v, .bool false, .int .i64 0, .int .u32 0] by rw [hv108, ← sav108]; exact Blk.new _ _ _)
  have szv108 : v108.heap.size = wc.heap.size + 1 := by rw [hv108]; simp
  obtain ⟨v109, hv109⟩ : ∃ x, x = v108.alloc (.cells #[.string k, .string ⟨#[]⟩, .bool true, .int .i64 (ln : Int), .int .u32 (h2 : Int)] 35) := ⟨_, rfl⟩
  have sav109 : v108.heap.size = (wc.heap.size + 1) := by first | rfl | omega
  have lt_Ia_Ib := Lib.hid (show wc.heap.size < (wc.heap.size + 1) from sav109 ▸ Ia.out.lt)
  replace Ia := Lib.hid (show Blk v109 wc.heap.size 35 #[.string k, .string v, .bool false, .int .i64 0, .int .u32 0] by rw [hv109]; exact Ia.out.alloc _)
  have ge_Ib := Lib.hid (show w.heap.size ≤ (wc.heap.size + 1) from sav109 ▸ HB.out.size)
  replace HB := Lib.hid (show Below w.heap.size w v109 by rw [hv109]; exact HB.out.alloc HB.out.size _)
  have Ib := Lib.hid (show Blk v109 (wc.heap.size + 1) 35 #[.string k, .string ⟨#[]⟩, .bool true, .int .i64 (ln : Int), .int .u32 (h2 : Int)] by rw [hv109, ← sav109]; exact Blk.new _ _ _)
  have szv109 : v109.heap.size = v108.heap.size + 1 := by rw [hv109]; simp
  obtain ⟨w107, hw107⟩ : ∃ x, x = v109.alloc (.cells #[.string k, .string v, .bool false, .int .i64 0, .int .u32 0] 35) := ⟨_, rfl⟩
  have saw107 : v109.heap.size = (wc.heap.size + 2) := by first | rfl | omega
  have lt_Ia_Sa := Lib.hid (show wc.heap.size < (wc.heap.size + 2) from saw107 ▸ Ia.out.lt)
  replace Ia := Lib.hid (show Blk w107 wc.heap.size 35 #[.string k, .string v, .bool false, .int .i64 0, .int .u32 0] by rw [hw107]; exact Ia.out.alloc _)
  have lt_Ib_Sa := Lib.hid (show (wc.heap.size + 1) < (wc.heap.size + 2) from saw107 ▸ Ib.out.lt)
  replace Ib := Lib.hid (show Blk w107 (wc.heap.size + 1) 35 #[.string k, .string ⟨#[]⟩, .bool true, .int .i64 (ln : Int), .int .u32 (h2 : Int)] by rw [hw107]; exact Ib.out.alloc _)
  have ge_Sa := Lib.hid (show w.heap.size ≤ (wc.heap.size + 2) from saw107 ▸ HB.out.size)
  replace HB := Lib.hid (show Below w.heap.size w w107 by rw [hw107]; exact HB.out.alloc HB.out.size _)
  have Sa := Lib.hid (show Blk w107 (wc.heap.size + 2) 35 #[.string k, .string v, .bool false, .int .i64 0, .int .u32 0] by rw [hw107, ← saw107]; exact Blk.new _ _ _)
  have szw107 : w107.heap.size = v109.heap.size + 1 := by rw [hw107]; simp
  clear sav108 szv108 sav109 szv109 saw107 szw107
  go_wp2_with fail
  rw [← hv108, ← hv109, ← hw107]
  clear hv108 hv109 hw107
  generalize (wc.heap.size + 2) = gSa at *
  generalize (wc.heap.size + 1) = gIb at *
  generalize wc.heap.size = gIa at *
  clear hlni hh2i
  refine (HPa1 _ 1 _ (show Reads _ _ 5 _ 1 (itc IA) from by rw [HIA.out]; exact ((reads_own (n := 1) Sa.out rfl).more Sa.out.lt))).mono ?_
  rintro e w110 ⟨rfl, hb⟩
  replace HB := Lib.hid (HB.out.trans (hb.mono HB.out.size))
  replace Ia := Lib.hid (Ia.out.below hb Ia.out.lt)
  replace Ib := Lib.hid (Ib.out.below hb Ib.out.lt)
  replace Sa := Lib.hid (Sa.out.below hb Sa.out.lt)
  clear hb
  clear HPa1
  clear Sa
  have lzIb := Ib.out.lt
  have dIb_0 := Ib.out.cell 0
  have dIb_1 := Ib.out.cell 1
  have dIb_2 := Ib.out.cell 2
  have dIb_3 := Ib.out.cell 3
  have dIb_4 := Ib.out.cell 4
  simp at dIb_0 dIb_1 dIb_2 dIb_3 dIb_4
  obtain ⟨v112, hv112⟩ : ∃ x, x = w110.alloc (.cells #[.int .i64 4, .int .i64 1, .int .u32 2, .int .u32 0, .int .u64 0, .string Ya] 26) := ⟨_, rfl⟩
  have sav112 : w110.heap.size = w110.heap.size := by first | rfl | omega
  have lt_Ia_Pa := Lib.hid (show gIa < w110.heap.size from sav112 ▸ Ia.out.lt)
  replace Ia := Lib.hid (show Blk v112 gIa 35 #[.string k, .string v, .bool false, .int .i64 0, .int .u32 0] by rw [hv112]; exact Ia.out.alloc _)
  have lt_Ib_Pa := Lib.hid (show gIb < w110.heap.size from sav112 ▸ Ib.out.lt)
  replace Ib := Lib.hid (show Blk v112 gIb 35 #[.string k, .string ⟨#[]⟩, .bool true, .int .i64 (ln : Int), .int .u32 (h2 : Int)] by rw [hv112]; exact Ib.out.alloc _)
  have ge_Pa := Lib.hid (show w.heap.size ≤ w110.heap.size from sav112 ▸ HB.out.size)
  replace HB := Lib.hid (show Below w.heap.size w v112 by rw [hv112]; exact HB.out.alloc HB.out.size _)
  have Pa := Lib.hid (show Blk v112 w110.heap.size 26 #[.int .i64 4, .int .i64 1, .int .u32 2, .int .u32 0, .int .u64 0, .string Ya] by rw [hv112, ← sav112]; exact Blk.new _ _ _)
  have szv112 : v112.heap.size = w110.heap.size + 1 := by rw [hv112]; simp
  obtain ⟨w111, hw111⟩ : ∃ x, x = v112.alloc (.cells #[.string k, .string ⟨#[]⟩, .bool true, .int .i64 (ln : Int), .int .u32 (h2 : Int)] 35) := ⟨_, rfl⟩
  have saw111 : v112.heap.size = (w110.heap.size + 1) := by first | rfl | omega
  have lt_Ia_Sb := Lib.hid (show gIa < (w110.heap.size + 1) from saw111 ▸ Ia.out.lt)
  replace Ia := Lib.hid (show Blk w111 gIa 35 #[.string k, .string v, .bool false, .int .i64 0, .int .u32 0] by rw [hw111]; exact Ia.out.alloc _)
  have lt_Ib_Sb := Lib.hid (show gIb < (w110.heap.size + 1) from saw111 ▸ Ib.out.lt)
  replace Ib := Lib.hid (show Blk w111 gIb 35 #[.string k, .string ⟨#[]⟩, .bool true, .int .i64 (ln : Int), .int .u32 (h2 : Int)] by rw [hw111]; exact Ib.out.alloc _)
  have lt_Pa_Sb := Lib.hid (show w110.heap.size < (w110.heap.size + 1) from saw111 ▸ Pa.out.lt)
  replace Pa := Lib.hid (show Blk w111 w110.heap.size 26 #[.int .i64 4, .int .i64 1, .int .u32 2, .int .u32 0, .int .u64 0, .string Ya] by rw [hw111]; exact Pa.out.alloc _)
  have ge_Sb := Lib.hid (show w.heap.size ≤ (w110.heap.size + 1) from saw111 ▸ HB.out.size)
  replace HB := Lib.hid (show Below w.heap.size w w111 by rw [hw111]; exact HB.out.alloc HB.out.size _)
  have Sb := Lib.hid (show Blk w111 (w110.heap.size + 1) 35 #[.string k, .string ⟨#[]⟩, .bool true, .int .i64 (ln : Int), .int .u32 (h2 : Int)] by rw [hw111, ← saw111]; exact Blk.new _ _ _)
  have szw111 : w111.heap.size = v112.heap.size + 1 := by rw [hw111]; simp
  clear sav112 szv112 saw111 szw111
  have cIb_0 := Ib.out.cell 0
  have cIb_1 := Ib.out.cell 1
  have cIb_2 := Ib.out.cell 2
  have cIb_3 := Ib.out.cell 3
  have cIb_4 := Ib.out.cell 4
  rw [hw111, hv112] at cIb_0 cIb_1 cIb_2 cIb_3 cIb_4
  simp at cIb_0 cIb_1 cIb_2 cIb_3 cIb_4
  go_wp2_with fail
  rw [← hv112, ← hw111]
  clear hv112 hw111 lzIb dIb_0 dIb_1 dIb_2 dIb_3 dIb_4 cIb_0 cIb_1 cIb_2 cIb_3 cIb_4
  generalize (w110.heap.size + 1) = gSb at *
  generalize w110.heap.size = gPa at *
  refine (HPb1 _ 1 _ (show Reads _ _ 5 _ 1 (itc IB) from by rw [HIB.out]; exact ((reads_own (n := 1) Sb.out rfl).more Sb.out.lt))).mono ?_
  rintro e w113 ⟨rfl, hb⟩
  replace HB := Lib.hid (HB.out.trans (hb.mono HB.out.size))
  replace Ia := Lib.hid (Ia.out.below hb Ia.out.lt)
  replace Ib := Lib.hid (Ib.out.below hb Ib.out.lt)
  replace Pa := Lib.hid (Pa.out.below hb Pa.out.lt)
  replace Sb := Lib.hid (Sb.out.below hb Sb.out.lt)
  clear hb
  clear HPb1
  clear Sb
  have lzPa := Pa.out.lt
  have dPa_0 := Pa.out.cell 0
  have dPa_1 := Pa.out.cell 1
  have dPa_2 := Pa.out.cell 2
  have dPa_3 := Pa.out.cell 3
  have dPa_4 := Pa.out.cell 4
  have dPa_5 := Pa.out.cell 5
  simp at dPa_0 dPa_1 dPa_2 dPa_3 dPa_4 dPa_5
  obtain ⟨w114, hw114⟩ : ∃ x, x = w113.alloc (.cells #[.int .i64 4, .int .i64 1, .int .u32 2, .int .u32 0, .int .u64 0, .string Yb] 26) := ⟨_, rfl⟩
  have saw114 : w113.heap.size = w113.heap.size := by first | rfl | omega
  have lt_Ia_Pb := Lib.hid (show gIa < w113.heap.size from saw114 ▸ Ia.out.lt)
  replace Ia := Lib.hid (show Blk w114 gIa 35 #[.string k, .string v, .bool false, .int .i64 0, .int .u32 0] by rw [hw114]; exact Ia.out.alloc _)
  have lt_Ib_Pb := Lib.hid (show gIb < w113.heap.size from saw114 ▸ Ib.out.lt)
  replace Ib := Lib.hid (show Blk w114 gIb 35 #[.string k, .string ⟨#[]⟩, .bool true, .int .i64 (ln : Int), .int .u32 (h2 : Int)] by rw [hw114]; exact Ib.out.alloc _)
  have lt_Pa_Pb := Lib.hid (show gPa < w113.heap.size from saw114 ▸ Pa.out.lt)
  replace Pa := Lib.hid (show Blk w114 gPa 26 #[.int .i64 4, .int .i64 1, .int .u32 2, .int .u32 0, .int .u64 0, .string Ya] by rw [hw114]; exact Pa.out.alloc _)
  have ge_Pb := Lib.hid (show w.heap.size ≤ w113.heap.size from saw114 ▸ HB.out.size)
  replace HB := Lib.hid (show Below w.heap.size w w114 by rw [hw114]; exact HB.out.alloc HB.out.size _)
  have Pb := Lib.hid (show Blk w114 w113.heap.size 26 #[.int .i64 4, .int .i64 1, .int .u32 2, .int .u32 0, .int .u64 0, .string Yb] by rw [hw114, ← saw114]; exact Blk.new _ _ _)
  have szw114 : w114.heap.size = w113.heap.size + 1 := by rw [hw114]; simp
  clear saw114 szw114
  have cPa_0 := Pa.out.cell 0
  have cPa_1 := Pa.out.cell 1
  have cPa_2 := Pa.out.cell 2
  have cPa_3 := Pa.out.cell 3
  have cPa_4 := Pa.out.cell 4
  have cPa_5 := Pa.out.cell 5
  rw [hw114] at cPa_0 cPa_1 cPa_2 cPa_3 cPa_4 cPa_5
  simp at cPa_0 cPa_1 cPa_2 cPa_3 cPa_4 cPa_5
  go_wp2_with fail
  rw [← hw114]
  clear hw114 lzPa dPa_0 dPa_1 dPa_2 dPa_3 dPa_4 dPa_5 cPa_0 cPa_1 cPa_2 cPa_3 cPa_4 cPa_5
  generalize w113.heap.size = gPb at *
  refine (HOa _).mono ?_
  intro e w6_ hpost
  obtain ⟨A6, n6, c6, rfl, hr6, _, _, hb⟩ := hpost
  obtain rfl : 1 = n6 := by have := it_len hr6; rw [HIA.out] at this; exact this
  have R6 := Lib.hid hr6
  replace HB := Lib.hid (HB.out.trans (hb.mono HB.out.size))
  replace Ia := Lib.hid (Ia.out.below hb Ia.out.lt)
  replace Ib := Lib.hid (Ib.out.below hb Ib.out.lt)
  replace Pa := Lib.hid (Pa.out.below hb Pa.out.lt)
  replace Pb := Lib.hid (Pb.out.below hb Pb.out.lt)
  clear hb hr6 HOa
  have pPb_0 := Pb.out.cell 0
  have pPb_1 := Pb.out.cell 1
  have pPb_2 := Pb.out.cell 2
  have pPb_3 := Pb.out.cell 3
  have pPb_4 := Pb.out.cell 4
  have pPb_5 := Pb.out.cell 5
  simp at pPb_0 pPb_1 pPb_2 pPb_3 pPb_4 pPb_5
  go_wp2_with fail
  clear pPb_0 pPb_1 pPb_2 pPb_3 pPb_4 pPb_5
  clear Pa
  refine (HOb _).mono ?_
  intro e w7_ hpost
  obtain ⟨A7, n7, c7, rfl, hr7, _, _, hb⟩ := hpost
  obtain rfl : 1 = n7 := by have := it_len hr7; rw [HIB.out] at this; exact this
  have R7 := Lib.hid hr7
  replace HB := Lib.hid (HB.out.trans (hb.mono HB.out.size))
  replace Ia := Lib.hid (Ia.out.below hb Ia.out.lt)
  replace Ib := Lib.hid (Ib.out.below hb Ib.out.lt)
  replace Pb := Lib.hid (Pb.out.below hb Pb.out.lt)
  replace R6 := Lib.hid ((R6.out.below hb).more hb.size)
  clear hb hr7 HOb
  clear Pb
  have lzIa := Ia.out.lt
  have dIa_0 := Ia.out.cell 0
  have dIa_1 := Ia.out.cell 1
  have dIa_2 := Ia.out.cell 2
  have dIa_3 := Ia.out.cell 3
  have dIa_4 := Ia.out.cell 4
  simp at dIa_0 dIa_1 dIa_2 dIa_3 dIa_4
  obtain ⟨w115, hw115⟩ : ∃ x, x = w7_.alloc (.cells #[.string k, .string v, .bool false, .int .i64 0, .int .u32 0] 35) := ⟨_, rfl⟩
  have saw115 : w7_.heap.size = w7_.heap.size := by first | rfl | omega
  have lt_Ia_Ta := Lib.hid (show gIa < w7_.heap.size from saw115 ▸ Ia.out.lt)
  replace Ia := Lib.hid (show Blk w115 gIa 35 #[.string k, .string v, .bool false, .int .i64 0, .int .u32 0] by rw [hw115]; exact Ia.out.alloc _)
  have lt_Ib_Ta := Lib.hid (show gIb < w7_.heap.size from saw115 ▸ Ib.out.lt)
  replace Ib := Lib.hid (show Blk w115 gIb 35 #[.string k, .string ⟨#[]⟩, .bool true, .int .i64 (ln : Int), .int .u32 (h2 : Int)] by rw [hw115]; exact Ib.out.alloc _)
  have ge_Ta := Lib.hid (show w.heap.size ≤ w7_.heap.size from saw115 ▸ HB.out.size)
  replace HB := Lib.hid (show Below w.heap.size w w115 by rw [hw115]; exact HB.out.alloc HB.out.size _)
  replace R6 := Lib.hid (show Reads w115 w115.heap.size _ _ _ _ by rw [hw115]; exact (R6.out.alloc (Nat.le_refl _) _).more (by simp))
  replace R7 := Lib.hid (show Reads w115 w115.heap.size _ _ _ _ by rw [hw115]; exact (R7.out.alloc (Nat.le_refl _) _).more (by simp))
  have Ta := Lib.hid (show Blk w115 w7_.heap.size 35 #[.string k, .string v, .bool false, .int .i64 0, .int .u32 0] by rw [hw115, ← saw115]; exact Blk.new _ _ _)
  have szw115 : w115.heap.size = w7_.heap.size + 1 := by rw [hw115]; simp
  clear saw115 szw115
  have cIa_0 := Ia.out.cell 0
  have cIa_1 := Ia.out.cell 1
  have cIa_2 := Ia.out.cell 2
  have cIa_3 := Ia.out.cell 3
  have cIa_4 := Ia.out.cell 4
  rw [hw115] at cIa_0 cIa_1 cIa_2 cIa_3 cIa_4
  simp at cIa_0 cIa_1 cIa_2 cIa_3 cIa_4
  go_wp2_with fail
  rw [← hw115]
  clear hw115 lzIa dIa_0 dIa_1 dIa_2 dIa_3 dIa_4 cIa_0 cIa_1 cIa_2 cIa_3 cIa_4
  generalize w7_.heap.size = gTa at *
  refine (same8_yes A6 1 c6 _ 1 IA _ R6.out (show Reads _ _ 5 _ 1 (itc IA) from by rw [HIA.out]; exact ((reads_own (n := 1) Ta.out rfl).more Ta.out.lt)) (by decide)).mono ?_
  rintro e w6s ⟨rfl, q, hq⟩
  have hb : Below w115.heap.size w115 w6s := by rw [hq]; exact below_drewN (Below.refl _ _) q
  clear hq
  replace HB := Lib.hid (HB.out.trans (hb.mono HB.out.size))
  replace Ia := Lib.hid (Ia.out.below hb Ia.out.lt)
  replace Ib := Lib.hid (Ib.out.below hb Ib.out.lt)
  replace Ta := Lib.hid (Ta.out.below hb Ta.out.lt)
  replace R6 := Lib.hid ((R6.out.below hb).more hb.size)
  replace R7 := Lib.hid ((R7.out.below hb).more hb.size)
  clear hb
  clear Ta
  have lzIb := Ib.out.lt
  have dIb_0 := Ib.out.cell 0
  have dIb_1 := Ib.out.cell 1
  have dIb_2 := Ib.out.cell 2
  have dIb_3 := Ib.out.cell 3
  have dIb_4 := Ib.out.cell 4
  simp at dIb_0 dIb_1 dIb_2 dIb_3 dIb_4
  obtain ⟨w116, hw116⟩ : ∃ x, x = w6s.alloc (.cells #[.string k, .string ⟨#[]⟩, .bool true, .int .i64 (ln : Int), .int .u32 (h2 : Int)] 35) := ⟨_, rfl⟩
  have saw116 : w6s.heap.size = w6s.heap.size := by first | rfl | omega
  have lt_Ia_Tb := Lib.hid (show gIa < w6s.heap.size from saw116 ▸ Ia.out.lt)
  replace Ia := Lib.hid (show Blk w116 gIa 35 #[.string k, .string v, .bool false, .int .i64 0, .int .u32 0] by rw [hw116]; exact Ia.out.alloc _)
  have lt_Ib_Tb := Lib.hid (show gIb < w6s.heap.size from saw116 ▸ Ib.out.lt)
  replace Ib := Lib.hid (show Blk w116 gIb 35 #[.string k, .string ⟨#[]⟩, .bool true, .int .i64 (ln : Int), .int .u32 (h2 : Int)] by rw [hw116]; exact Ib.out.alloc _)
  have ge_Tb := Lib.hid (show w.heap.size ≤ w6s.heap.size from saw116 ▸ HB.out.size)
  replace HB := Lib.hid (show Below w.heap.size w w116 by rw [hw116]; exact HB.out.alloc HB.out.size _)
  replace R6 := Lib.hid (show Reads w116 w116.heap.size _ _ _ _ by rw [hw116]; exact (R6.out.alloc (Nat.le_refl _) _).more (by simp))
  replace R7 := Lib.hid (show Reads w116 w116.heap.size _ _ _ _ by rw [hw116]; exact (R7.out.alloc (Nat.le_refl _) _).more (by simp))
  have Tb := Lib.hid (show Blk w116 w6s.heap.size 35 #[.string k, .string ⟨#[]⟩, .bool true, .int .i64 (ln : Int), .int .u32 (h2 : Int)] by rw [hw116, ← saw116]; exact Blk.new _ _ _)
  have szw116 : w116.heap.size = w6s.heap.size + 1 := by rw [hw116]; simp
  clear saw116 szw116
  have cIb_0 := Ib.out.cell 0
  have cIb_1 := Ib.out.cell 1
  have cIb_2 := Ib.out.cell 2
  have cIb_3 := Ib.out.cell 3
  have cIb_4 := Ib.out.cell 4
  rw [hw116] at cIb_0 cIb_1 cIb_2 cIb_3 cIb_4
  simp at cIb_0 cIb_1 cIb_2 cIb_3 cIb_4
  go_wp2_with fail
  rw [← hw116]
  clear hw116 lzIb dIb_0 dIb_1 dIb_2 dIb_3 dIb_4 cIb_0 cIb_1 cIb_2 cIb_3 cIb_4
  generalize w6s.heap.size = gTb at *
  refine (same8_yes A7 1 c7 _ 1 IB _ R7.out (show Reads _ _ 5 _ 1 (itc IB) from by rw [HIB.out]; exact ((reads_own (n := 1) Tb.out rfl).more Tb.out.lt)) (by decide)).mono ?_
  rintro e w7s ⟨rfl, q, hq⟩
  have hb : Below w116.heap.size w116 w7s := by rw [hq]; exact below_drewN (Below.refl _ _) q
  clear hq
  replace HB := Lib.hid (HB.out.trans (hb.mono HB.out.size))
  replace Ia := Lib.hid (Ia.out.below hb Ia.out.lt)
  replace Ib := Lib.hid (Ib.out.below hb Ib.out.lt)
  replace Tb := Lib.hid (Tb.out.below hb Tb.out.lt)
  replace R6 := Lib.hid ((R6.out.below hb).more hb.size)
  replace R7 := Lib.hid ((R7.out.below hb).more hb.size)
  clear hb
  clear Tb
  clear Ia
  clear Ib
  go_wp2_with fail
  refine (HS1 A6 c6 _ R6.out).mono ?_
  rintro e w117 ⟨rfl, hb⟩
  replace HB := Lib.hid (HB.out.trans (hb.mono HB.out.size))
  replace R6 := Lib.hid ((R6.out.below hb).more hb.size)
  replace R7 := Lib.hid ((R7.out.below hb).more hb.size)
  clear hb
  go_wp2_with fail
  refine (HS2 A7 c7 _ R7.out).mono ?_
  rintro e w118 ⟨rfl, hb⟩
  replace HB := Lib.hid (HB.out.trans (hb.mono HB.out.size))
  replace R6 := Lib.hid ((R6.out.below hb).more hb.size)
  replace R7 := Lib.hid ((R7.out.below hb).more hb.size)
  clear hb
  go_wp2_with fail
  go_ret
  exact ⟨by first | rfl | simp, HB.out⟩
theorem lffits_walk (size : Int) (A : Option Addr) (m c : Nat) (l : List It) (k v : ByteArray) (h0 : Int) (w : World) (_h0 : (Lit.int .i64 size).wf = true) (hl : Its w w.heap.size A m c l) (_h2 : k.size ≤ maxLen) (_h3 : v.size ≤ maxLen) (h4 : (Lit.int .u32 h0).wf = true) :
    Calls Try.prog 7 #[.int .i64 size, .slice A m c, .string k, .string v, .int .u32 h0] w fun e w' => e = .returned (.bool true) ∧ Below w.heap.size w w' := by
  obtain ⟨hd, rfl⟩ := Int.eq_ofNat_of_zero_le (lit_u32' h4).1
  have hnr := hl.near
  obtain ⟨hr, hmc, hcm, hm, hok⟩ := hl
  rcases hli : lightI l with _ | _
  · exact lffits_no size A m c l k v hd w hr hm hnr hli
  by_cases hk : 40 < k.size
  · exact lffits_k size A m c l k v hd w hr hm hnr hli hk
  by_cases hv : 255 < v.size
  · exact lffits_v size A m c l k v hd w hr hm hnr hli hk hv
  obtain ⟨h60, hsz⟩ := light8_size hli
  rw [it_len hr] at h60
  exact lffits_main size A m c l k v hd w hr hm hnr hli hk hv h60 hsz
end Go.Proofs.Ytinojpcjbjjlbaa
