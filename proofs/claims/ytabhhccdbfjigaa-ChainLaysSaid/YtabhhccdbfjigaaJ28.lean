/-
  Contracts of the reference: an image behind a write (layer 3's Does), for whatever page size.
-/
import Derived.Test.YtabhhccdbfjigaaJ21
import Derived.Test.YtabhhccdbfjigaaJ15
import Derived.Test.YtabhhccdbfjigaaJ17
import Derived.Test.YtabhhccdbfjigaaJ11
import Derived.Test.YtabhhccdbfjigaaJ2
import Derived.Lib.MinMax
import Derived.Deep.CutRange
import Derived.Deep.DrawnRows
namespace Go.Proofs.Ytabhhccdbfjigaa
open Go.RowKit
open Go.Lib hiding intOf
set_option linter.unusedVariables false
set_option linter.unusedSimpArgs false
attribute [local go_sem ↓] Go.wp_at_zero Go.wp_at_succ

theorem ext_list11 (s : ByteArray) (i j : Nat) : (s.extract i j).data.toList = (s.data.toList.drop i).take (j - i) := by
  rw [ByteArray.data_extract, Array.toList_extract, List.extract_eq_take_drop]
theorem conv_zs11 {w : World} {g n : Nat} (h : MRow w g (List.replicate n 0)) :
    (convert 60 9 (.slice (some ⟨g, 0, none⟩) n n)).run Try.prog w = .ok (.string (zs n)) w := by
  have hr := h.reads
  rw [List.length_replicate] at hr
  exact run_string_reads w 60 9 5 n Try.underlying60 Try.underlying5 Try.underlying9 hr
set_option maxRecDepth 100000 in
theorem noughts11_any (n : Nat) (w : World) (hn : n ≤ 281474976710656) :
    Calls Try.prog 87 #[.int .i64 n] w fun e w' => e = .returned (.string (zs n)) ∧ Below w.heap.size w w' := by
  have hmk := run_make_bytes (P := Try.prog) 60 5 Try.underlying60 infoU8 n hn w
  have cv := conv_zs11 (MRow.of_made w 5 n)
  have hb : Below w.heap.size w (w.alloc (.cells (madeCells #[.int .u8 0] n) 5)) := (Below.refl _ _).alloc (Nat.le_refl _) _
  have HB := Lib.hid hb
  have h0 : (max (0 : Int) n) = n := by omega
  clear hb
  go_enter Try.func87, Try.ntmps87
  go_wp2_with fail
  go_ret
  exact ⟨rfl, HB.out⟩
theorem wr_sameZ {I b : ByteArray} {z n a : Nat} (hb : b.size = z) (ha : a = n * z) (h : a + z ≤ I.size) : I.extract 0 a ++ b ++ I.extract (a + z) I.size = writeB z n b I := by
  apply bytes_ext
  rw [writeB_list]
  unfold bWrite
  have hl := size_list I
  rw [ByteArray.data_append, ByteArray.data_append, Array.toList_append, Array.toList_append, ext_list11, ext_list11, ← ha, show a + z - I.data.toList.length = 0 by omega]
  simp
  rw [List.take_of_length_le (by rw [List.length_drop, hl]; omega)]
theorem wr_moreZ {I b : ByteArray} {z n a : Nat} (hb : b.size = z) (ha : a = n * z) (h : I.size < a + z) : (I ++ zs (a + z - I.size)).extract 0 a ++ b ++ (I ++ zs (a + z - I.size)).extract (a + z) (a + z) = writeB z n b I := by
  apply bytes_ext
  rw [writeB_list]
  unfold bWrite
  have hl := size_list I
  rw [ByteArray.data_append, ByteArray.data_append, Array.toList_append, Array.toList_append, ext_list11, ext_list11, ByteArray.data_append, Array.toList_append, zs_list, ← ha, hl, List.drop_of_length_le (l := I.data.toList) (by omega)]
  simp
set_option maxRecDepth 100000 in
set_option maxHeartbeats 3200000 in
theorem rdoesZ_any (I b : ByteArray) (z n : Nat) (w : World) (hz : z ≤ 4096) (hn : n ≤ 4294967295) (hI : I.size ≤ 17592186044416) (hs : b.size = z) :
    Calls Try.prog 58 #[.int .i64 z, .string I, (.agg #[.bool false, .int .u32 n, .string b])] w fun e w' => e = .returned (.string (writeB z n b I)) ∧ Below w.heap.size w w' := by
  obtain ⟨a, ha⟩ : ∃ a, a = n * z := ⟨_, rfl⟩
  have ha9 : a ≤ 4294967295 * 4096 := by rw [ha]; exact Nat.mul_le_mul hn hz
  have hm : (n : Int) * (z : Int) = (a : Int) := by rw [ha]; simp
  have hwa : IntKind.i64.wrap (a : Int) = (a : Int) := i64_nat a (by omega)
  have hwa2 : wrap64 (a : Int) = (a : Int) := wrap64_nat a (by omega)
  obtain ⟨e, he⟩ : ∃ e, e = a + z := ⟨_, rfl⟩
  have he1 : (a : Int) + (z : Int) = (e : Int) := by omega
  have hwe : IntKind.i64.wrap (e : Int) = (e : Int) := i64_nat e (by omega)
  have hb : Below w.heap.size w (w.alloc (.cells #[.bool false, .int .u32 n, .string b] 93)) := (Below.refl _ _).alloc (Nat.le_refl _) _
  have HB := Lib.hid hb
  have hbk := Blk.new w 93 #[.bool false, .int .u32 n, .string b]
  have k0 := hbk.cell 0
  have k1 := hbk.cell 1
  have k2 := hbk.cell 2
  have hae : (a : Int) ≤ (e : Int) := by omega
  by_cases hle : e ≤ I.size
  · have HT := Lib.hid (wr_sameZ (I := I) hs ha (by omega))
    rw [← he] at HT
    have HS := Lib.hid hs
    have x1 : (I.extract 0 a).size = a := by rw [ByteArray.size_extract]; omega
    have x2 : (I.extract e I.size).size ≤ 17592186044416 := by rw [ByteArray.size_extract]; omega
    have hc1 : ¬ (9223372036854775807 < (I.extract 0 a).size + b.size) := by omega
    have hc2 : ¬ (9223372036854775807 < (I.extract 0 a).size + b.size + (I.extract e I.size).size) := by omega
    have hc3 : ¬ (9223372036854775807 < min a I.size + b.size) := by omega
    have hc4 : ¬ (9223372036854775807 < min a I.size + b.size + (I.size - e)) := by omega
    have hc5 : ¬ (9223372036854775807 < a + b.size + (I.size - e)) := by omega
    have hi1 : (a : Int) ≤ (I.size : Int) := by omega
    have hi2 : (e : Int) ≤ (I.size : Int) := by omega
    have hd1 : ¬ (I.size : Int) < (e : Int) := by omega
    clear hb x1 x2 ha he hs
    go_enter Try.func58, Try.ntmps58
    go_wp2_with fail
    go_region
    go_wp2_with fail
    go_ret
    exact ⟨by rw [← HT.out]; rfl, HB.out.drew⟩
  · have HT := Lib.hid (wr_moreZ (I := I) hs ha (by omega))
    rw [← he] at HT
    have HS := Lib.hid hs
    obtain ⟨d, hd⟩ : ∃ d, d = e - I.size := ⟨_, rfl⟩
    have ed : (e : Int) - (I.size : Int) = (d : Int) := by omega
    have hwd : IntKind.i64.wrap (d : Int) = (d : Int) := i64_nat d (by omega)
    have hd' := noughts11_any d (w.alloc (.cells #[.bool false, .int .u32 n, .string b] 93)) (by omega)
    rw [← hd] at HT
    have HD := Lib.hid hd
    have hd1 : (I.size : Int) < (e : Int) := by omega
    have HAE := Lib.hid (show a ≤ e by omega)
    have HSz := Lib.hid (show e = a + b.size by omega)
    have hJ0 : (I ++ zs d).size = e := by rw [ByteArray.size_append, zs_size, hd]; omega
    have hJc : ¬ (9223372036854775807 < I.size + (zs d).size) := by rw [zs_size]; omega
    clear hb hd ha he hs
    go_enter Try.func58, Try.ntmps58
    go_wp2_with fail
    refine hd'.mono ?_
    rintro e' w1 ⟨rfl, hb1⟩
    have hbk1 := hbk.below hb1 hbk.lt
    have j0 := hbk1.cell 0
    have j1 := hbk1.cell 1
    have j2 := hbk1.cell 2
    have hz := zs_size d
    have x1 : ((I ++ zs d).extract 0 a).size = a := by rw [ByteArray.size_extract]; have := HAE.out; omega
    have x2 : ((I ++ zs d).extract e e).size ≤ 17592186044416 := by rw [ByteArray.size_extract]; omega
    have hc1 : ¬ (9223372036854775807 < ((I ++ zs d).extract 0 a).size + b.size) := by have := HSz.out; omega
    have hc2 : ¬ (9223372036854775807 < ((I ++ zs d).extract 0 a).size + b.size + ((I ++ zs d).extract e e).size) := by have := HSz.out; omega
    have hc3 : ¬ (9223372036854775807 < min a e + b.size) := by have := HSz.out; omega
    have hc4 : ¬ (9223372036854775807 < a + b.size) := by have := HSz.out; omega
    clear x1 x2
    clear k0 k1 k2
    go_wp2_with fail
    go_region
    go_wp2_with fail
    go_ret
    refine ⟨?_, (HB.out.trans (hb1.mono (by simp))).drew⟩
    have hee : (I ++ zs d).extract e e = (⟨#[]⟩ : ByteArray) := by apply bytes_ext; rw [ext_list11]; simp
    have hap : ∀ x : ByteArray, x ++ (⟨#[]⟩ : ByteArray) = x := fun x => by apply bytes_ext; rw [ByteArray.data_append, Array.toList_append]; simp
    rw [← HT.out, hee, hap]
    rfl
theorem pgcell {w : World} {B n k : Nat} {ad : Addr} {L : List Pg} {y : Pg} (h : Reads w B 6 (some ad) n (pgcs L)) (hk : k < n) (hy : L[k]? = some y) : PgAt w (ad.add (k * 6)) y := by
  obtain ⟨ad', y', ha, _, hx, hc⟩ := page_at h hk
  injection ha with ha
  subst ha
  rw [hy] at hx
  injection hx with hx
  subst hx
  exact hc
set_option maxRecDepth 100000 in
set_option maxHeartbeats 12800000 in
theorem rlay11_any (size : Int) (img : ByteArray) (A : Option Addr) (n c : Nat) (L : List Pg) (w : World) (hi : img.size ≤ 8796093022208) (hr : Reads w w.heap.size 6 A n (pgcs L)) (hn : n ≤ 1000000) :
    Calls Try.prog 20 #[.int .i64 size, .string img, .slice A n c] w fun e w' => e = .returned (.tuple #[.string (layStr size img L), .int .i64 (layErr size img L)]) ∧ Below w.heap.size w w' := by
  have HR := Lib.hid hr
  have HL := Lib.hid (pgcs_len hr)
  clear hr
  go_enter Try.func20, Try.ntmps20
  go_wp2_with fail
  go_loopw [1, 8] (fun v i wr => ∃ (k : Nat) (im : ByteArray), k ≤ n ∧ i = .int .i64 k ∧ v = .string im ∧ Hid (layL size img (L.take k) = some im) ∧ im.size ≤ 8796093022208 ∧ Hid (Below w.heap.size w wr)) (fun _ i _ => n - (intOf i).toNat)
  case atStart => exact ⟨0, img, Nat.zero_le _, rfl, rfl, Lib.hid rfl, hi, Lib.hid (Below.refl _ _)⟩
  case round =>
    obtain ⟨k, im, hk, rfl, rfl, HV, hib, HB⟩ := hrel
    by_cases hlt : k < n
    · obtain ⟨ad, y, rfl, _, hy, _⟩ := page_at (HR.out.below HB.out) hlt
      have hj0 : (0 : Int) ≤ k := by omega
      have hj1 : (k : Int) < n := by omega
      obtain ⟨d0, d1, d2, d3, d4, d5⟩ := pgcell (HR.out.below HB.out) hlt hy
      have HY := Lib.hid hy
      have htk := take_snoc_at hy
      have hvs := layL_snoc size img (L.take k) y
      rw [← htk, HV.out] at hvs
      obtain ⟨pk, pc, pn, pl, pt, pb⟩ := y
      simp only at d0 d1 d2 d3 d4 d5 hvs
      clear htk hy
      rcases hm : mayPg size pk pc pn pl pt pb with _ | _
      · rw [hm] at hvs
        have HE := Lib.hid (layL_front hvs)
        have HP := fun w => rfput_no size pk pc pn pl pt pb w hm
        clear hvs hm
        go_wp2_with fail
        refine (HP _).mono ?_
        rintro e w2 ⟨rfl, hb⟩
        replace HB := Lib.hid (HB.out.trans (hb.mono HB.out.size))
        clear hb HP
        go_wp2_with fail
        go_ret2
        rw [(lay_no HE.out).1, (lay_no HE.out).2]
        exact ⟨rfl, HB.out⟩
      · rw [hm] at hvs
        have hmm := hm
        simp only [mayPg, Bool.and_eq_true, decide_eq_true_eq] at hmm
        obtain ⟨k0, rfl⟩ := Int.eq_ofNat_of_zero_le (by omega : 0 ≤ pk)
        obtain ⟨c0, rfl⟩ := Int.eq_ofNat_of_zero_le (by omega : 0 ≤ pc)
        obtain ⟨z, rfl, hz1, hz2, _⟩ := good_nat hmm.1
        have hzt : ((z : Nat) : Int).toNat = z := by omega
        have hbs := (block_right (p := ⟨(k0 : Int), (c0 : Int), pn, pl, pt, pb⟩) hm).1
        have hbk : Pg.block ⟨(k0 : Int), (c0 : Int), pn, pl, pt, pb⟩ = pageB k0 c0 pn pl pt pb := rfl
        rw [hbk] at hbs hvs
        rw [hzt] at hvs
        have HP := fun w => rfput_yes z k0 c0 pn pl pt pb w hm
        obtain ⟨bk, hbkk⟩ : ∃ b, b = pageB k0 c0 pn pl pt pb := ⟨_, rfl⟩
        rw [← hbkk] at hbs hvs HP
        have HD := fun w => rdoesZ_any im bk z pn w (by omega) (by omega) (by omega) hbs
        have hsz := writeB_size z pn bk im hbs
        have hmul : pn * z ≤ 2147483647 * 4096 := Nat.mul_le_mul (by omega) (by omega)
        obtain ⟨im2, him2⟩ : ∃ x, x = writeB z pn bk im := ⟨_, rfl⟩
        rw [← him2] at HD hsz hvs
        have hib2 : im2.size ≤ 8796093022208 := by omega
        have HV2 := Lib.hid (show layL z img (L.take (k + 1)) = some im2 from hvs)
        clear hvs hm hmm hbs hbk hbkk hsz hmul him2 hzt
        go_wp2_with fail
        refine (HP _).mono ?_
        rintro e w2 ⟨rfl, hb⟩
        replace HB := Lib.hid (HB.out.trans (hb.mono HB.out.size))
        clear hb HP d0 d1 d2 d3 d4 d5
        obtain ⟨d0, d1, d2, d3, d4, d5⟩ := pgcell (HR.out.below HB.out) hlt HY.out
        simp only at d0 d1 d2 d3 d4 d5
        go_wp2_with fail
        refine (HD _).mono ?_
        rintro e w3 ⟨rfl, hb⟩
        have HB3 := Lib.hid (HB.out.trans (hb.mono HB.out.size))
        clear hb HD d0 d1 d2 d3 d4 d5 HB
        go_wp2_with fail
        go_roundw
        case rel =>
          first
            | exact ⟨k + 1, im2, by omega, by go_num, rfl, HV2, hib2, HB3⟩
            | ((repeat apply Exists.intro); exact ⟨⟨k + 1, im2, by omega, by go_num, rfl, HV2, hib2, HB3⟩, rfl⟩)
        case measure => simp [intOf]; omega
    · obtain rfl : k = n := by omega
      have ht : L.take k = L := List.take_of_length_le (by rw [HL.out]; exact Nat.le_refl _)
      rw [ht] at HV
      clear hlt ht
      go_wp2_with fail
      go_ret2
      rw [(lay_yes HV.out).1, (lay_yes HV.out).2]
      exact ⟨rfl, HB.out⟩
end Go.Proofs.Ytabhhccdbfjigaa
