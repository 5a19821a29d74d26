/-
  The walk of the statement CrcLinear: from every start, at every argument, it returns true and changes no block that was there before.
-/
import Derived.Test.YtjamoboajaianaaCrcLaw
import Derived.Test.YtjamoboajaianaaBytes
import Derived.Deep.DeepCutAuto
import Derived.Deep.RegionHeld3
namespace Go.Proofs.Ytjamoboajaianaa
open Go.RowKit Go.Lib
set_option linter.unusedVariables false
set_option linter.unusedSimpArgs false

/-- The first k of l, then noughts. -/
def fillK (l : List UInt8) (k : Nat) : List UInt8 := l.take k ++ List.replicate (l.length - k) 0
theorem fillK_len (l : List UInt8) (k : Nat) : (fillK l k).length = l.length := by simp [fillK]; omega
theorem fillK_set (l : List UInt8) (k : Nat) (h : k < l.length) : (fillK l k).set k l[k] = fillK l (k + 1) := by
  have hl : (l.take k).length = k := by simp; omega
  unfold fillK
  rw [show l.length - k = (l.length - (k + 1)) + 1 by omega, List.replicate_succ, List.set_append_right _ _ (by omega), hl, Nat.sub_self, List.set_cons_zero, take_snoc l k h, List.append_assoc]
  rfl
theorem fillK_zero (l : List UInt8) : fillK l 0 = List.replicate l.length 0 := by simp [fillK]
theorem fillK_all (l : List UInt8) : fillK l l.length = l := by simp [fillK]
def xorL (l m : List UInt8) : List UInt8 := List.zipWith (· ^^^ ·) l m
theorem xorL_len (l m : List UInt8) (h : l.length = m.length) : (xorL l m).length = l.length := by simp [xorL, h]
theorem ones_xor {x y : Nat} (hx : x < 4294967296) (hy : y < 4294967296) : (4294967295 - x) ^^^ (4294967295 - y) = x ^^^ y := by
  have h1 := xor_ones32 x hx
  have h2 := xor_ones32 y hy
  rw [show 4294967295 - x = 2 ^ 32 - 1 - x by rfl, show 4294967295 - y = 2 ^ 32 - 1 - y by rfl, ← h1, ← h2]
  generalize 2 ^ 32 - 1 = o
  rw [Nat.xor_assoc, ← Nat.xor_assoc x, Nat.xor_comm x, Nat.xor_assoc o x, ← Nat.xor_assoc o o, Nat.xor_self, Nat.zero_xor]
theorem crc_xor (l m : List UInt8) (h : l.length = m.length) : crcM 0 l ^^^ crcM 0 m = run 0 (xorL l m) := by
  unfold crcM
  rw [ones_xor (run_lt l (by omega)) (run_lt m (by omega)), run_xor l m _ _ h, Nat.xor_self]; rfl
theorem xorL_zero (l : List UInt8) (n : Nat) (h : l.length = n) : xorL l (List.replicate n 0) = l := by
  apply List.ext_getElem?
  intro j
  unfold xorL
  rw [List.getElem?_zipWith]
  by_cases hj : j < n
  · simp [hj, List.getElem?_replicate]
    rw [List.getElem?_eq_getElem (by omega)]
    simp
  · rw [List.getElem?_eq_none (by omega : l.length ≤ j)]
theorem xorL_twice (l m : List UInt8) (h : l.length = m.length) : xorL l (xorL l m) = m := by
  apply List.ext_getElem?
  intro j
  unfold xorL
  rw [List.getElem?_zipWith, List.getElem?_zipWith]
  by_cases hj : j < l.length
  · rw [List.getElem?_eq_getElem hj, List.getElem?_eq_getElem (by omega : j < m.length)]
    simp [← UInt8.xor_assoc]
  · rw [List.getElem?_eq_none (by omega : l.length ≤ j), List.getElem?_eq_none (by omega : m.length ≤ j)]
theorem minN (a b c : Nat) : ∃ n : Nat, (if (c : Int) < (if b < a then (b : Int) else a) then (c : Int) else if b < a then (b : Int) else a) = n ∧ n ≤ a ∧ n ≤ b ∧ n ≤ c := by
  by_cases h1 : b < a
  · simp only [h1, if_true]
    by_cases h2 : (c : Int) < b
    · exact ⟨c, by rw [if_pos h2], by omega, by omega, by omega⟩
    · exact ⟨b, by rw [if_neg h2], by omega, by omega, by omega⟩
  · simp only [h1, if_false]
    by_cases h2 : (c : Int) < a
    · exact ⟨c, by rw [if_pos h2], by omega, by omega, by omega⟩
    · exact ⟨a, by rw [if_neg h2], by omega, by omega, by omega⟩
theorem infoU8 : (Try.prog.info? 5).map (fun i => (i.zero, i.size, i.bytes)) = some (some (.int .u8 0), 1, 1) := by kernel_rfl
theorem str_of {W : World} {B n c : Nat} {A : Option Addr} {l : List UInt8} (h : Reads W B 1 A n (bcells l)) :
    (convert 30 9 (.slice A n c)).run Try.prog W = .ok (.string ⟨l.toArray⟩) W :=
  run_string_reads W 30 9 5 c Try.underlying30 Try.underlying5 Try.underlying9 h
theorem str_row {W : World} {g n c : Nat} {l : List UInt8} (h : MRow W g l) (hn : l.length = n) :
    (convert 30 9 (.slice (some ⟨g, 0, none⟩) n c)).run Try.prog W = .ok (.string ⟨l.toArray⟩) W := by
  subst hn; exact str_of h.reads
theorem str_made (n : Nat) (W : World) : (convert 30 9 (.slice (some ⟨W.heap.size, 0, none⟩) n n)).run Try.prog (W.alloc (.cells (madeCells #[.int .u8 0] n) 5)) = .ok (.string ⟨(List.replicate n (0 : UInt8)).toArray⟩) (W.alloc (.cells (madeCells #[.int .u8 0] n) 5)) :=
  str_row (MRow.of_made W _ n) (by simp)
theorem data_at (s : ByteArray) (k : Nat) (h : k < s.size) : s.data.toList[k]? = some s[k] := by
  rw [List.getElem?_eq_getElem (by simpa using h)]; rfl
theorem xor_at {X A B : List UInt8} {k : Nat} {x y : UInt8} (hX : X = xorL A B) (ha : A[k]? = some x) (hb : B[k]? = some y) (h : k < X.length) : bits .xor .u8 (x.toNat : Int) (y.toNat : Int) = (X[k].toNat : Int) := by
  have e : X[k]? = some (x ^^^ y) := by subst hX; simp [xorL, List.getElem?_zipWith, ha, hb]
  rw [List.getElem?_eq_getElem h] at e
  rw [Option.some.inj e, u8_xor_nat _ _ x.toNat_lt y.toNat_lt, UInt8.toNat_xor]
theorem fillK_at (l : List UInt8) (k : Nat) (h : k < l.length) : (fillK l (k + 1))[k]? = some l[k] := by
  unfold fillK
  rw [List.getElem?_append_left (by simp; omega), List.getElem?_take, if_pos (by omega), List.getElem?_eq_getElem h]
set_option maxRecDepth 100000 in
set_option maxHeartbeats 20000000 in
theorem clinear_walk (a b c : ByteArray) (w : World) (h0 : a.size ≤ maxLen) (h1 : b.size ≤ maxLen) (h2 : c.size ≤ maxLen) :
    Calls Try.prog 7 #[.string a, .string b, .string c] w fun e w' => e = .returned (.bool true) ∧ Below w.heap.size w w' := by
  have M0 := Lib.hid h0
  have M1 := Lib.hid h1
  have M2 := Lib.hid h2
  unfold maxLen at h0
  clear h1 h2
  go_enter Try.func7, Try.ntmps7
  go_wp2_with fail
  refine (lives02_any w).mono ?_
  rintro e w1 ⟨rfl, hb1⟩
  go_upto_region 4 with fail
  obtain ⟨n, hn, ha, hb, hc⟩ := minN a.size b.size c.size
  rw [hn]
  clear hn
  by_cases h6 : n ≤ 600
  · have hmk := fun W => run_make_bytes (P := Try.prog) 30 5 Try.underlying30 infoU8 n (by omega) W
    have m1 := MRow.of_made w1 5 n
    have m2 := m1.alloc (.cells (madeCells #[.int .u8 0] n) 5)
    have m3 := MRow.of_made (w1.alloc (.cells (madeCells #[.int .u8 0] n) 5)) 5 n
    rw [show (w1.alloc (.cells (madeCells #[.int .u8 0] n) 5)).heap.size = w1.heap.size + 1 by simp] at m3
    have c1 := str_row (n := n) (c := n) m1.drew (by simp)
    have c2 := str_row (n := n) (c := n) m2.drew (by simp)
    have c3 := str_row (n := n) (c := n) m3.drew (by simp)
    have N1 := Lib.hid m1
    have N2 := Lib.hid m2
    have N3 := Lib.hid m3
    clear m1 m2 m3
    go_upto_region 6 with fail
    go_cut [8, 9] (fun s8 s9 wx => ∃ g : Nat, s8 = .slice (some ⟨g, 0, none⟩) n n ∧ s9 = .string ⟨(List.replicate n (0 : UInt8)).toArray⟩ ∧ Hid (MRow wx g (List.replicate n 0)) ∧ w.heap.size ≤ g ∧ Hid (Below w.heap.size w wx))
    case first =>
      go_region
      all_goals (go_wp2_with fail)
      all_goals go_meet
      all_goals first
        | exact ⟨w1.heap.size, rfl, rfl, N2.out.drew, hb1.size, ((hb1.alloc hb1.size _).alloc (by have := hb1.size; simp; omega) _).drew⟩
        | exact ⟨w1.heap.size + 1, rfl, rfl, N3.out.drew, by have := hb1.size; omega, ((hb1.alloc hb1.size _).alloc (by have := hb1.size; simp; omega) _).drew⟩
    case rest =>
      obtain ⟨g, rfl, rfl, r1, hg, hbw⟩ := hcut
      clear c1 c2 c3 N1 N2 N3
      go_wp2_with fail
      have hgw := r1.out.1
      have r2 := r1.out.alloc (.cells (madeCells #[.int .u8 0] n) 5)
      have s2 := MRow.of_made wc 5 n
      have hb2 := hbw.out.alloc hbw.out.size (.cells (madeCells #[.int .u8 0] n) 5)
      have hg2 : w.heap.size ≤ wc.heap.size := hbw.out.size
      have hl1 : (a.data.toList.take n).length = n := by simp; omega
      have hl2 : (b.data.toList.take n).length = n := by simp; omega
      have hl3 : (c.data.toList.take n).length = n := by simp; omega
      obtain ⟨X, hX⟩ : ∃ X, X = xorL (a.data.toList.take n) (b.data.toList.take n) := ⟨_, rfl⟩
      obtain ⟨Y, hY⟩ : ∃ Y, Y = xorL (c.data.toList.take n) X := ⟨_, rfl⟩
      have hlX : X.length = n := by rw [hX, xorL_len _ _ (by omega)]; exact hl1
      have hlY : Y.length = n := by rw [hY, xorL_len _ _ (by omega)]; exact hl3
      have r3 : MRow (wc.alloc (.cells (madeCells #[.int .u8 0] n) 5)) g (fillK X 0) := by rw [fillK_zero, hlX]; exact r2
      have s3 : MRow (wc.alloc (.cells (madeCells #[.int .u8 0] n) 5)) wc.heap.size (fillK Y 0) := by rw [fillK_zero, hlY]; exact s2
      have hne : g ≠ wc.heap.size := Nat.ne_of_lt hgw
      have HX := Lib.hid hX
      have HY := Lib.hid hY
      have LX := Lib.hid hlX
      have LY := Lib.hid hlY
      have L1 := Lib.hid hl1
      have L2 := Lib.hid hl2
      have L3 := Lib.hid hl3
      have NE := Lib.hid hne
      clear hX hY hlX hlY hl1 hl2 hl3 hne r1 r2 s2 hbw hmk
      generalize wc.alloc (.cells (madeCells #[.int .u8 0] n) 5) = w2 at *
      generalize wc.heap.size = g2 at *
      go_loopw [11] (fun i wr => ∃ k : Nat, k ≤ n ∧ i = .int .i64 k ∧ MRow wr g (fillK X k) ∧ MRow wr g2 (fillK Y k) ∧ Below w.heap.size w wr) (fun i _ => n - (intOf i).toNat)
      case atStart => exact ⟨0, by omega, rfl, r3, s3, hb2⟩
      case round =>
        obtain ⟨k, hk, rfl, hr, hs, hbr⟩ := hrel
        by_cases hlt : k < n
        · have hkX : k < X.length := by rw [LX.out]; exact hlt
          have hkY : k < Y.length := by rw [LY.out]; exact hlt
          have ha' : k < a.size := by omega
          have hb' : k < b.size := by omega
          have hc' : k < c.size := by omega
          have cx := hr.cell (j := k) (by rw [fillK_len]; exact hkX)
          have fx := hr.frozen (j := k) (by rw [fillK_len]; exact hkX)
          have hk0 : (0 : Int) ≤ k := by omega
          have hk1 : (k : Int) < n := by omega
          go_wp2_with fail
          have hx : bits .xor .u8 (a[k].toNat : Int) (b[k].toNat : Int) = (X[k].toNat : Int) := xor_at (k := k) HX.out (by rw [List.getElem?_take, if_pos hlt]; exact data_at a k ha') (by rw [List.getElem?_take, if_pos hlt]; exact data_at b k hb') hkX
          have hy : bits .xor .u8 (c[k].toNat : Int) (X[k].toNat : Int) = (Y[k].toNat : Int) := xor_at (k := k) HY.out (by rw [List.getElem?_take, if_pos hlt]; exact data_at c k hc') (List.getElem?_eq_getElem hkX) hkY
          have hr1 := (hr.set_ (j := k) (by rw [fillK_len]; exact hkX) X[k]).drew
          rw [fillK_set _ _ hkX] at hr1
          have hs1 := (hs.far (p := ⟨g, k, none⟩) (Ne.symm NE.out) (.int .u8 (X[k].toNat : Int))).drew
          have hbr1 := (hbr.setCell (p := ⟨g, k, none⟩) hg (.int .u8 (X[k].toNat : Int))).drew
          have cx1 := hr1.2 k X[k] (fillK_at X k hkX)
          obtain ⟨cx1, _⟩ := cx1
          have cy1 := hs1.cell (j := k) (by rw [fillK_len]; exact hkY)
          have fy1 := hs1.frozen (j := k) (by rw [fillK_len]; exact hkY)
          have HR := Lib.hid hr1
          have HS := Lib.hid hs1
          have HB := Lib.hid hbr1
          clear hr hs hbr hr1 hs1 hbr1
          go_region
          go_wp2_with fail
          go_region
          go_wp2_with fail
          go_roundw
          case rel =>
            refine ⟨k + 1, by omega, by go_num, ?_, ?_, ?_⟩
            · exact (HR.out.far (p := ⟨g2, k, none⟩) NE.out _).drew
            · have := (HS.out.set_ (j := k) (by rw [fillK_len]; exact hkY) Y[k]).drew
              rw [fillK_set _ _ hkY] at this
              exact this
            · exact (HB.out.setCell hg2 _).drew
          case measure => simp [intOf]; omega
        · obtain rfl : k = n := by omega
          have e1 : fillK X k = X := by have := fillK_all X; rwa [LX.out] at this
          have e2 : fillK Y k = Y := by have := fillK_all Y; rwa [LY.out] at this
          rw [e1] at hr
          rw [e2] at hs
          clear e1 e2
          obtain ⟨D, hD⟩ : ∃ D, D = run 0 X := ⟨_, rfl⟩
          have e1 : bits .xor .u32 ((crcM 0 (a.data.toList.take k) : Nat) : Int) ((crcM 0 (b.data.toList.take k) : Nat) : Int) = (D : Int) := by
            rw [u32_xor_nat _ _ (crcM_lt _ _) (crcM_lt _ _), crc_xor _ _ (by rw [L1.out, L2.out]), ← HX.out, hD]
          have e2 : bits .xor .u32 ((crcM 0 X : Nat) : Int) ((crcM 0 (List.replicate k 0) : Nat) : Int) = (D : Int) := by
            rw [u32_xor_nat _ _ (crcM_lt _ _) (crcM_lt _ _), crc_xor _ _ (by rw [LX.out, List.length_replicate]), xorL_zero _ _ LX.out, hD]
          have e3 : bits .xor .u32 ((crcM 0 (c.data.toList.take k) : Nat) : Int) ((crcM 0 Y : Nat) : Int) = (D : Int) := by
            rw [u32_xor_nat _ _ (crcM_lt _ _) (crcM_lt _ _), crc_xor _ _ (by rw [L3.out, LY.out]), HY.out, xorL_twice _ _ (by rw [L3.out, LX.out]), hD]
          clear hD
          have zX : (⟨X.toArray⟩ : ByteArray).size ≤ maxLen := by show X.toArray.size ≤ _; simp [LX.out, maxLen]; omega
          have zY : (⟨Y.toArray⟩ : ByteArray).size ≤ maxLen := by show Y.toArray.size ≤ _; simp [LY.out, maxLen]; omega
          have zZ : (⟨Array.replicate k (0 : UInt8)⟩ : ByteArray).size ≤ maxLen := by show (Array.replicate k (0 : UInt8)).size ≤ _; simp [maxLen]; omega
          have zA : (a.extract 0 k).size ≤ maxLen := by have := M0.out; rw [ByteArray.size_extract]; omega
          have zB : (b.extract 0 k).size ≤ maxLen := by have := M1.out; rw [ByteArray.size_extract]; omega
          have zC : (c.extract 0 k).size ≤ maxLen := by have := M2.out; rw [ByteArray.size_extract]; omega
          have ZX := Lib.hid zX
          have ZY := Lib.hid zY
          have ZZ := Lib.hid zZ
          have ZA := Lib.hid zA
          have ZB := Lib.hid zB
          have ZC := Lib.hid zC
          clear zX zY zZ zA zB zC
          have hk0 : (0 : Int) ≤ k := by omega
          have hk1 : (k : Int) ≤ a.size := by omega
          have hk2 : (k : Int) ≤ b.size := by omega
          have hk3 : (k : Int) ≤ c.size := by omega
          have HR := Lib.hid hr.drew
          have HS := Lib.hid hs.drew
          have hB := hbr.drew
          clear hr hs hbr
          go_wp2_with fail
          go_region_held3 (fun w' => (convert 30 9 (.slice (some ⟨g, 0, none⟩) k k)).run Try.prog w' = .ok (.string ⟨X.toArray⟩) w' ∧ (convert 30 9 (.slice (some ⟨g2, 0, none⟩) k k)).run Try.prog w' = .ok (.string ⟨Y.toArray⟩) w')
            (exact ⟨str_row (c := k) HR.out LX.out, str_row (c := k) HS.out LY.out⟩)
            (first
            | (go_at_call 10
               (first | (with_reducible refine (of_any _ _ ZA.out).mono ?_) | (with_reducible refine (of_any _ _ ZB.out).mono ?_) | (with_reducible refine (of_any _ _ ZX.out).mono ?_) | (with_reducible refine (of_any _ _ ZZ.out).mono ?_) | (with_reducible refine (of_any _ _ ZC.out).mono ?_) | (with_reducible refine (of_any _ _ ZY.out).mono ?_))
               rintro e w' ⟨rfl, hb⟩
               replace HR := Lib.hid (HR.out.below hb HR.out.1)
               replace HS := Lib.hid (HS.out.below hb HS.out.1)
               replace hB := hB.trans (hb.mono hB.size)
               clear hb))
          all_goals go_wp2
          all_goals go_ret
          all_goals exact ⟨rfl, hB⟩
  · have h6' : (600 : Int) < n := by omega
    go_wp2_with fail
    go_ret
    exact ⟨rfl, hb1⟩
end Go.Proofs.Ytjamoboajaianaa
