/-
  Contracts of catalog.listed and catalog.Page.
-/
import Derived.Test.YtgljmcameeeaiaaCatValid
import Derived.Test.YtgljmcameeeaiaaFramePut
import Derived.Lib.AppendStr
import Derived.Deep.CutRange
namespace Go.Proofs.Ytgljmcameeeaiaa
open Go.RowKit
open Go.Lib hiding intOf
set_option linter.unusedVariables false
set_option linter.unusedSimpArgs false
attribute [local go_sem ↓] Go.wp_at_zero Go.wp_at_succ

theorem grown_of_below {w w' : World} (h : Below w.heap.size w w') : w.grownBy w' none := ⟨h.os, h.tape, h.output, h.size, fun k hk _ => h.block k hk⟩
theorem own_below {w w' : World} {base : Nat} {e : TypeId} {size : Nat} {v : Value} {n : Nat} {xs : List Value} (ho : w.ownsRow base e size v n xs) (h : Below w.heap.size w w') : w'.ownsRow base e size v n xs :=
  ho.kept (grown_of_below h) (by rcases v.ownBlock with _ | g <;> simp)
theorem own_type {w : World} {base : Nat} {e : TypeId} {size : Nat} {v : Value} {n : Nat} {xs : List Value} (ho : w.ownsRow base e size v n xs) {g : Nat} {t : TypeId} {cs : Array Value} (hB : Blk w g t cs) (hne : t ≠ e) : some g ≠ v.ownBlock := by
  rcases ho.2 with ⟨rfl, _⟩ | ⟨g', cap, cur, rfl, _, hg', _⟩
  · simp [Value.ownBlock]
  · intro h
    simp [Value.ownBlock] at h
    exact Blk.ne_ hB hg' hne h
theorem strip_nil (l : List UInt8) : bcells ([] ++ l) = bcells l := rfl
set_option maxRecDepth 100000 in
set_option maxHeartbeats 12800000 in
theorem clisted_any (A : Option Addr) (m c : Nat) (l : List Bk) (w : World) (hr : Reads w w.heap.size 3 A m (bkc l)) (hall : allOk l = true) (hs : sizeB l ≤ 1000000) :
    Calls Try.prog 32 #[.slice A m c] w fun e w' => ∃ A' c', e = .returned (.slice A' (sizeB l) c') ∧ Reads w' w'.heap.size 1 A' (sizeB l) (bcells (bytesB l)) ∧ Below w.heap.size w w' := by
  obtain ⟨i0, hi0, hz0, hz1, hz2⟩ := info_parts infoU8
  have hm : m ≤ 1000000 := by
    have h1 := nine_le0 l
    rw [bk_len hr] at h1
    omega
  have HALL := Lib.hid hall
  have HL := Lib.hid (bk_len hr)
  have HR := Lib.hid hr
  have HS := Lib.hid hs
  clear hr hall hs
  go_enter Try.func32, Try.ntmps32
  go_wp2_with fail
  go_loopw [3, 5, 8] (fun b _ i wr => ∃ (k : Nat) (A' : Option Addr) (c' : Nat), k ≤ m ∧ i = .int .i64 k ∧ b = .slice A' (sizeB (l.take k)) c' ∧ Hid (wr.ownsRow w.heap.size 5 1 (.slice A' (sizeB (l.take k)) c') (sizeB (l.take k)) (bcells (bytesB (l.take k)))) ∧ Hid (Below w.heap.size w wr)) (fun _ _ i _ => m - (intOf i).toNat)
  case atStart => exact ⟨0, none, 0, Nat.zero_le _, rfl, rfl, Lib.hid (World.ownsRow_nil _ _ _ _), Lib.hid (Below.refl _ _)⟩
  case round =>
    obtain ⟨k, A', c', hk, rfl, rfl, HO, HB⟩ := hrel
    by_cases hlt : k < m
    · obtain ⟨ad, x, rfl, _, hp, hx, hc⟩ := bk_at HR.out hlt
      have hk0 : (0 : Int) ≤ k := by omega
      have hk1 : (k : Int) < m := by omega
      have hok := allOk_ok HALL.out hx
      have hnm : x.nm.size ≤ 16 := by
        simp only [okBk, nameB, Bool.and_eq_true, decide_eq_true_eq] at hok
        exact hok.1.2
      obtain ⟨kn, hkn⟩ : ∃ kn : Nat, x.ks = kn := by
        simp only [okBk, emptyB, fullB, Bool.and_eq_true, Bool.or_eq_true, decide_eq_true_eq] at hok
        exact ⟨x.ks.toNat, by omega⟩
      have hkl : kn ≤ 2147483647 := by
        simp only [okBk, emptyB, fullB, Bool.and_eq_true, Bool.or_eq_true, decide_eq_true_eq] at hok
        omega
      have hrt : x.rt ≤ 2147483647 := by
        simp only [okBk, emptyB, fullB, Bool.and_eq_true, Bool.or_eq_true, decide_eq_true_eq] at hok
        omega
      have hsz : sizeB (l.take k) ≤ 1000000 := Nat.le_trans (sizeB_take_le l k) HS.out
      have HX := Lib.hid hx
      obtain ⟨c0, c1, c2⟩ := hc.below HB.out hp
      have e1 := u64_nat x.nm.size (by omega)
      have e2 := u64_nat x.rt (by omega)
      have e3 := u64_nat kn (by omega)
      rw [hkn] at c2
      obtain ⟨w1, hw1⟩ : ∃ x1, x1 = wr.alloc (.cells #[.string x.nm, .int .u32 x.rt, .int .i64 kn] 33) := ⟨_, rfl⟩
      have M := Lib.hid (show Blk w1 wr.heap.size 33 #[.string x.nm, .int .u32 x.rt, .int .i64 kn] by rw [hw1]; exact Blk.new _ _ _)
      replace HB := Lib.hid (show Below w.heap.size w w1 by rw [hw1]; exact HB.out.alloc HB.out.size _)
      replace HO := Lib.hid (show w1.ownsRow w.heap.size 5 1 (.slice A' (sizeB (l.take k)) c') (sizeB (l.take k)) (bcells (bytesB (l.take k))) by rw [hw1]; exact HO.out.alloc _)
      obtain ⟨N, hN⟩ : ∃ N, N = sizeB (l.take k) := ⟨_, rfl⟩
      obtain ⟨LB, hLB⟩ : ∃ N, N = bytesB (l.take k) := ⟨_, rfl⟩
      have HN := Lib.hid hN
      have HLB := Lib.hid hLB
      rw [← hN] at HO hsz
      rw [← hLB] at HO
      clear hx hc hp hok
      go_upto_region 5 with fail
      rw [← hw1]
      rw [← hN]
      clear hw1 c0 c1 c2 hN hLB
      generalize wr.heap.size = gM at *
      have m0 := M.out.cell 0
      simp at m0
      go_wp2_with fail
      refine (put_reads none 0 0 x.nm.size 1 [] _ (reads_nil _) (by omega) (by omega) (by omega)).mono ?_
      rintro e w2 ⟨A2, c2, rfl, hr2, hb⟩
      rw [List.nil_append] at hr2
      replace M := Lib.hid (M.out.below hb M.out.lt)
      replace HB := Lib.hid (HB.out.trans (hb.mono HB.out.size))
      replace HO := Lib.hid (own_below HO.out hb)
      have HR2 := Lib.hid hr2
      clear hb hr2 m0
      go_upto_region 6 with (at_builtin; refine wpList_append_any _ rfl (.tmp 12) (.tmp 17) _ rfl w.heap.size 5 i0 _ 1 1 Try.underlying55 hi0 hz0 hz1 hz2 rfl (by omega) _ N _ rfl HO.out w2.heap.size A2 1 c2 _ rfl HR2.out (bcells_one _) (by unfold maxLen; omega) (by omega) HB.out.size ?_; intro v3 w3 hown3 hg3 _)
      replace M := Lib.hid (M.out.grown hg3 (own_type HO.out M.out (by decide)))
      replace HB := Lib.hid (HB.out.grown hg3 HB.out.size (fun g h => (HO.out.lt g h).1))
      rw [← bcells_append] at hown3
      obtain ⟨A3, c3, rfl, _, _, _⟩ := own_form hown3
      replace HO := Lib.hid hown3
      clear hg3 hown3 HR2
      have m0 := M.out.cell 0
      simp at m0
      go_upto_region 7 with (at_builtin; refine Lib.wpList_append_own_string _ rfl (.tmp 19) (.tmp 21) _ _ rfl w.heap.size 5 i0 Try.underlying55 Try.underlying9 hi0 hz0 hz1 hz2 _ (N + 1) _ rfl HO.out x.nm rfl (by unfold maxLen; omega) (by omega) HB.out.size ?_; intro v4 w4 hown4 hg4 _)
      replace M := Lib.hid (M.out.grown hg4 (own_type HO.out M.out (by decide)))
      replace HB := Lib.hid (HB.out.grown hg4 HB.out.size (fun g h => (HO.out.lt g h).1))
      have hown4' : w4.ownsRow w.heap.size 5 1 v4 (N + 1 + x.nm.size) (bcells (LB ++ leBytes 1 x.nm.size ++ x.nm.data.toList)) := by
        rw [bcells_append (LB ++ leBytes 1 x.nm.size)]; exact hown4
      obtain ⟨A4, c4, rfl, _, _, _⟩ := own_form hown4'
      replace HO := Lib.hid hown4'
      clear hg4 hown4 hown4' m0
      have m1 := M.out.cell 1
      simp at m1
      go_wp2_with fail
      refine (put_reads none 0 0 x.rt 4 [] _ (reads_nil _) (by omega) (by omega) (by omega)).mono ?_
      rintro e w5 ⟨A5, c5, rfl, hr5, hb⟩
      rw [List.nil_append] at hr5
      replace M := Lib.hid (M.out.below hb M.out.lt)
      replace HB := Lib.hid (HB.out.trans (hb.mono HB.out.size))
      replace HO := Lib.hid (own_below HO.out hb)
      have HR5 := Lib.hid hr5
      clear hb hr5 m1
      go_upto_region 8 with (at_builtin; refine wpList_append_any _ rfl (.tmp 23) (.tmp 27) _ rfl w.heap.size 5 i0 _ 1 1 Try.underlying55 hi0 hz0 hz1 hz2 rfl (by omega) _ (N + 1 + x.nm.size) _ rfl HO.out w5.heap.size A5 4 c5 _ rfl HR5.out (bcells_one _) (by unfold maxLen; omega) (by omega) HB.out.size ?_; intro v6 w6 hown6 hg6 _)
      replace M := Lib.hid (M.out.grown hg6 (own_type HO.out M.out (by decide)))
      replace HB := Lib.hid (HB.out.grown hg6 HB.out.size (fun g h => (HO.out.lt g h).1))
      rw [← bcells_append] at hown6
      obtain ⟨A6, c6, rfl, _, _, _⟩ := own_form hown6
      replace HO := Lib.hid hown6
      clear hg6 hown6 HR5
      have m2 := M.out.cell 2
      simp at m2
      go_wp2_with fail
      refine (put_reads none 0 0 kn 4 [] _ (reads_nil _) (by omega) (by omega) (by omega)).mono ?_
      rintro e w7 ⟨A7, c7, rfl, hr7, hb⟩
      rw [List.nil_append] at hr7
      replace HB := Lib.hid (HB.out.trans (hb.mono HB.out.size))
      replace HO := Lib.hid (own_below HO.out hb)
      have HR7 := Lib.hid hr7
      clear hb hr7 m2 M
      go_upto_region 9 with (at_builtin; refine wpList_append_any _ rfl (.tmp 29) (.tmp 33) _ rfl w.heap.size 5 i0 _ 1 1 Try.underlying55 hi0 hz0 hz1 hz2 rfl (by omega) _ (N + 1 + x.nm.size + 4) _ rfl HO.out w7.heap.size A7 4 c7 _ rfl HR7.out (bcells_one _) (by unfold maxLen; omega) (by omega) HB.out.size ?_; intro v8 w8 hown8 hg8 _)
      replace HB := Lib.hid (HB.out.grown hg8 HB.out.size (fun g h => (HO.out.lt g h).1))
      rw [← bcells_append] at hown8
      have hby : LB ++ leBytes 1 x.nm.size ++ x.nm.data.toList ++ leBytes 4 x.rt ++ leBytes 4 kn = bytesB (l.take (k + 1)) := by
        rw [bytesB_take_succ HX.out, Bk.bytes, hkn, HLB.out]
        simp
      have hse : N + 1 + x.nm.size + 4 + 4 = sizeB (l.take (k + 1)) := by
        have := sizeB_take_succ HX.out
        rw [← HN.out] at this
        omega
      rw [hby] at hown8
      obtain ⟨A8, c8, rfl, _, _, _⟩ := own_form hown8
      replace HO := Lib.hid (show w8.ownsRow w.heap.size 5 1 (.slice A8 (sizeB (l.take (k + 1))) c8) (sizeB (l.take (k + 1))) (bcells (bytesB (l.take (k + 1)))) from hse ▸ hown8)
      have HSE := Lib.hid hse
      clear hg8 hown8 HR7 hby hse hkn e1 e2 e3
      go_wp2_with fail
      go_roundw
      case rel =>
        first
          | exact ⟨k + 1, A8, c8, by omega, by go_num, by rw [HSE.out], HO, HB⟩
          | ((repeat apply Exists.intro); exact ⟨⟨k + 1, A8, c8, by omega, by go_num, by rw [HSE.out], HO, HB⟩, rfl⟩)
      case measure => simp [intOf]; omega
    · obtain rfl : k = m := by omega
      have ht : l.take k = l := List.take_of_length_le (by rw [HL.out]; exact Nat.le_refl _)
      rw [ht] at HO
      rw [ht]
      clear hlt ht
      go_wp2_with fail
      go_ret
      exact ⟨A', c', rfl, Reads.of_own HO.out, HB.out⟩
set_option maxRecDepth 100000 in
set_option maxHeartbeats 6400000 in
theorem cpage6_no (size : Int) (n tx : Nat) (A : Option Addr) (m c : Nat) (l : List Bk) (w : World) (hr : Reads w w.heap.size 3 A m (bkc l)) (hm : m ≤ 4398046511104) (h : mayC size n tx l = false) :
    Calls Try.prog 9 #[.int .i64 size, .int .u32 n, .int .u64 tx, .slice A m c] w fun e w' => e = .returned (.tuple #[.agg #[.int .i64 0, .int .i64 0, .int .u32 0, .int .u32 0, .int .u64 0, .string ByteArray.empty], .int .i64 2]) ∧ Below w.heap.size w w' := by
  have HM := fun (w' : World) (hb : Below w.heap.size w w') => cvalid_any size A m c l w' ((hr.below hb).more hb.size) hm
  have HN := fun w => cnum_any n w
  obtain ⟨hz, hi⟩ := zero_of_info infoPg
  have HI := Lib.hid hi
  clear hi hr
  obtain ⟨w0, hw0⟩ : ∃ x, x = w.alloc (.cells #[.int .i64 0, .int .i64 0, .int .u32 0, .int .u32 0, .int .u64 0, .string ByteArray.empty] 26) := ⟨_, rfl⟩
  have R0 := Lib.hid (show Blk w0 w.heap.size 26 #[.int .i64 0, .int .i64 0, .int .u32 0, .int .u32 0, .int .u64 0, .string ByteArray.empty] by rw [hw0]; exact Blk.new _ _ _)
  have HB := Lib.hid (show Below w.heap.size w w0 by rw [hw0]; exact (Below.refl _ _).alloc (Nat.le_refl _) _)
  go_enter Try.func9, Try.ntmps9
  go_wp2_with fail
  rw [← hw0]
  clear hw0
  refine (HM _ HB.out).mono ?_
  rintro e w1 ⟨rfl, hb⟩
  replace R0 := Lib.hid (R0.out.below hb R0.out.lt)
  replace HB := Lib.hid (HB.out.trans (hb.mono HB.out.size))
  clear hb HM
  have k0 := R0.out.cell 0
  have k1 := R0.out.cell 1
  have k2 := R0.out.cell 2
  have k3 := R0.out.cell 3
  have k4 := R0.out.cell 4
  have k5 := R0.out.cell 5
  have f0 := R0.out.frozen 0
  have f1 := R0.out.frozen 1
  have f2 := R0.out.frozen 2
  have f3 := R0.out.frozen 3
  have f4 := R0.out.frozen 4
  have f5 := R0.out.frozen 5
  simp at k0 k1 k2 k3 k4 k5
  rcases hml : mayL size l with _ | _
  · clear h
    go_wp2_with fail
    exact bodyPost_ret (read_row rfl _ _ _ w.heap.size #[.int .i64 0, .int .i64 0, .int .u32 0, .int .u32 0, .int .u64 0, .string ByteArray.empty] rfl (load_page (six_at R0.out))) rfl ⟨rfl, six_below HB.out (Nat.le_refl _)⟩
  rcases hnb : numB n with _ | _
  · rw [hnb] at HN
    clear h
    go_wp2_with (go_at_call 30; refine (HN _).mono ?_; rintro e w' ⟨rfl, rfl⟩)
    exact bodyPost_ret (read_row rfl _ _ _ w.heap.size #[.int .i64 0, .int .i64 0, .int .u32 0, .int .u32 0, .int .u64 0, .string ByteArray.empty] rfl (load_page (six_at R0.out))) rfl ⟨rfl, six_below HB.out (Nat.le_refl _)⟩
  · rw [hnb] at HN
    have hd : decide ((4611686018427387904 : Int) < tx) = true := by
      rw [mayC, hml, hnb] at h
      simp at h
      simp
      omega
    clear h
    go_wp2_with (go_at_call 30; refine (HN _).mono ?_; rintro e w' ⟨rfl, rfl⟩)
    exact bodyPost_ret (read_row rfl _ _ _ w.heap.size #[.int .i64 0, .int .i64 0, .int .u32 0, .int .u32 0, .int .u64 0, .string ByteArray.empty] rfl (load_page (six_at R0.out))) rfl ⟨rfl, six_below HB.out (Nat.le_refl _)⟩
set_option maxRecDepth 100000 in
set_option maxHeartbeats 12800000 in
theorem cpage6_yes (z n tx : Nat) (A : Option Addr) (m c : Nat) (l : List Bk) (w : World) (hr : Reads w w.heap.size 3 A m (bkc l)) (hm : m ≤ 4398046511104) (h : mayC z n tx l = true) :
    Calls Try.prog 9 #[.int .i64 z, .int .u32 n, .int .u64 tx, .slice A m c] w fun e w' => e = .returned (.tuple #[.agg #[.int .i64 2, .int .i64 m, .int .u32 n, .int .u32 0, .int .u64 tx, .string (catBody z l)], .int .i64 0]) ∧ Below w.heap.size w w' := by
  obtain ⟨hall, hg, hsum, hnb, htx, hroom⟩ := mayC_parts h
  have hm2 : m ≤ 1000 := by
    have h1 := nine_le0 l
    rw [bk_len hr] at h1
    have h2 := good_pos hg
    omega
  have hml : mayL z l = true := by simp only [mayC, Bool.and_eq_true] at h; exact h.1
  have hnb' : numB n = true := by simp [numB, hnb]
  have HM := fun (w' : World) (hb : Below w.heap.size w w') => cvalid_any z A m c l w' ((hr.below hb).more hb.size) hm
  rw [hml] at HM
  have HN := fun w => cnum_any n w
  rw [hnb'] at HN
  have hd : decide ((4611686018427387904 : Int) < tx) = false := by simp; omega
  have hs1 : sizeB l ≤ 1000000 := by have := good_pos hg; omega
  have HLs := fun (w' : World) (hb : Below w.heap.size w w') => clisted_any A m c l w' ((hr.below hb).more hb.size) hall hs1
  have HBd := fun (A' : Option Addr) (c' : Nat) (w' : World) (h' : Reads w' w'.heap.size 1 A' (sizeB l) (bcells (bytesB l))) => fbody_ok z A' (sizeB l) c' (bytesB l) w' hg h' hroom
  have hcb : (⟨(bytesB l ++ List.replicate (z - 24 - sizeB l) 0).toArray⟩ : ByteArray) = catBody z l := rfl
  rw [hcb] at HBd
  obtain ⟨B, hB⟩ : ∃ B, B = catBody z l := ⟨_, rfl⟩
  rw [← hB] at HBd ⊢
  clear hB
  obtain ⟨hz, hi⟩ := zero_of_info infoPg
  have HI := Lib.hid hi
  clear hi hr hall hg hsum hnb hnb' htx hroom hml h hs1 hcb
  obtain ⟨w0, hw0⟩ : ∃ x, x = w.alloc (.cells #[.int .i64 0, .int .i64 0, .int .u32 0, .int .u32 0, .int .u64 0, .string ByteArray.empty] 26) := ⟨_, rfl⟩
  have R0 := Lib.hid (show Blk w0 w.heap.size 26 #[.int .i64 0, .int .i64 0, .int .u32 0, .int .u32 0, .int .u64 0, .string ByteArray.empty] by rw [hw0]; exact Blk.new _ _ _)
  have HB := Lib.hid (show Below w.heap.size w w0 by rw [hw0]; exact (Below.refl _ _).alloc (Nat.le_refl _) _)
  go_enter Try.func9, Try.ntmps9
  go_wp2_with fail
  rw [← hw0]
  clear hw0
  refine (HM _ HB.out).mono ?_
  rintro e w1 ⟨rfl, hb⟩
  replace R0 := Lib.hid (R0.out.below hb R0.out.lt)
  replace HB := Lib.hid (HB.out.trans (hb.mono HB.out.size))
  clear hb HM
  go_wp2_with (go_at_call 30; refine (HN _).mono ?_; rintro e w' ⟨rfl, rfl⟩)
  clear HN hd
  refine (HLs _ HB.out).mono ?_
  rintro e w2 ⟨A', c', rfl, hrd, hb⟩
  replace R0 := Lib.hid (R0.out.below hb R0.out.lt)
  replace HB := Lib.hid (HB.out.trans (hb.mono HB.out.size))
  clear hb HLs
  go_wp2_with fail
  refine (HBd A' c' _ hrd).mono ?_
  rintro e w3 ⟨rfl, hb⟩
  replace R0 := Lib.hid (R0.out.below hb R0.out.lt)
  replace HB := Lib.hid (HB.out.trans (hb.mono HB.out.size))
  clear hb HBd hrd
  have k0 := R0.out.cell 0
  have k1 := R0.out.cell 1
  have k2 := R0.out.cell 2
  have k3 := R0.out.cell 3
  have k4 := R0.out.cell 4
  have k5 := R0.out.cell 5
  have f0 := R0.out.frozen 0
  have f1 := R0.out.frozen 1
  have f2 := R0.out.frozen 2
  have f3 := R0.out.frozen 3
  have f4 := R0.out.frozen 4
  have f5 := R0.out.frozen 5
  simp at k0 k1 k2 k3 k4 k5
  go_wp2_with fail
  exact bodyPost_ret (read_row rfl _ _ _ w.heap.size #[.int .i64 2, .int .i64 m, .int .u32 n, .int .u32 0, .int .u64 tx, .string B] rfl (load_page (six_at R0.out))) rfl ⟨rfl, six_below HB.out (Nat.le_refl _)⟩
end Go.Proofs.Ytgljmcameeeaiaa
