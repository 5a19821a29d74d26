/-
  Texts that the main proof rests on, put together: Ref11L, LaLaid, Kit12. No statement is proved here.
-/
import Derived.Test.YtmmjckokjmpfpaaGreatJ10
import Derived.Test.YtmmjckokjmpfpaaGreatJ11
import Derived.Test.YtmmjckokjmpfpaaGreatJ8
import Derived.Test.YtmmjckokjmpfpaaGreatJ7
import Derived.Test.YtmmjckokjmpfpaaGreatJ1
import Derived.Lib.MinMax
import Derived.Deep.CutRange
import Derived.Deep.DrawnRows
import Derived.Deep.CutBlock
import Derived.Deep.RegionHeld3
import Derived.Test.YtmmjckokjmpfpaaGreatJ33
import Derived.Test.YtmmjckokjmpfpaaGreatJ34
import Derived.Lib.Hide
set_option linter.unusedVariables false
set_option linter.unusedSimpArgs false
namespace Go.Proofs.YtmmjckokjmpfpaaGreat
open Go.RowKit
open Go.Lib hiding intOf
attribute [local go_sem ↓] Go.wp_at_zero Go.wp_at_succ

theorem ext_list11 (s : ByteArray) (i j : Nat) : (s.extract i j).data.toList = (s.data.toList.drop i).take (j - i) := by
 rw [ByteArray.data_extract, Array.toList_extract, List.extract_eq_take_drop]
theorem conv_zs11 {w : World} {g n : Nat} (h : MRow w g (List.replicate n 0)) :
  (convert 102 9 (.slice (some ⟨g, 0, none⟩) n n)).run Tryz.prog w = .ok (.string (zs n)) w := by
 have hr := h.reads
 rw [List.length_replicate] at hr
 exact run_string_reads w 102 9 5 n Tryz.underlying102 Tryz.underlying5 Tryz.underlying9 hr
set_option maxRecDepth 100000 in
theorem noughts11_any (n : Nat) (w : World) (hn : n ≤ 281474976710656) :
  Calls Tryz.prog 86 #[.int .i64 n] w fun e w' => e = .returned (.string (zs n)) ∧ Below w.heap.size w w' := by
 have hmk := run_make_bytes (P := Tryz.prog) 102 5 Tryz.underlying102 infoU8 n hn w
 have cv := conv_zs11 (MRow.of_made w 5 n)
 have hb : Below w.heap.size w (w.alloc (.cells (madeCells #[.int .u8 0] n) 5)) := (Below.refl _ _).alloc (Nat.le_refl _) _
 have HB := Lib.hid hb
 have h0 : (max (0 : Int) n) = n := by omega
 clear hb
 go_enter Tryz.func86, Tryz.ntmps86
 go_wp2_with fail
 go_ret
 exact ⟨rfl, HB.out⟩
theorem wr_sameZ {I b : ByteArray} {z n a : Nat} (hb : b.size = z) (ha : a = n * z) (h : a + z ≤ I.size) : I.extract 0 a ++ b ++ I.extract (a + z) I.size = writeB z n b I := by
 apply bytes_ext
 rw [writeB_list]
 unfold bWrite
 have hl := size_list I
 rw [ByteArray.data_append, ByteArray.data_append, Array.toList_append, Array.toList_append, ext_list11, ext_list11, ← ha, show a + z - I.data.toList.length = 0 by omega]
 simp
 rw [List.take_of_length_le (by rw [List.length_drop, hl]; omega)]
theorem wr_moreZ {I b : ByteArray} {z n a : Nat} (hb : b.size = z) (ha : a = n * z) (h : I.size < a + z) : (I ++ zs (a + z - I.size)).extract 0 a ++ b ++ (I ++ zs (a + z - I.size)).extract (a + z) (a + z) = writeB z n b I := by
 apply bytes_ext
 rw [writeB_list]
 unfold bWrite
 have hl := size_list I
 rw [ByteArray.data_append, ByteArray.data_append, Array.toList_append, Array.toList_append, ext_list11, ext_list11, ByteArray.data_append, Array.toList_append, zs_list, ← ha, hl, List.drop_of_length_le (l := I.data.toList) (by omega)]
 simp
set_option maxRecDepth 100000 in
set_option maxHeartbeats 3200000 in
theorem rdoesZ_any (I b : ByteArray) (z n : Nat) (w : World) (hz : z ≤ 4096) (hn : n ≤ 4294967295) (hI : I.size ≤ 17592186044416) (hs : b.size = z) :
  Calls Tryz.prog 54 #[.int .i64 z, .string I, (.agg #[.bool false, .int .u32 n, .string b])] w fun e w' => e = .returned (.string (writeB z n b I)) ∧ Below w.heap.size w w' := by
 obtain ⟨a, ha⟩ : ∃ a, a = n * z := ⟨_, rfl⟩
 have ha9 : a ≤ 4294967295 * 4096 := by rw [ha]; exact Nat.mul_le_mul hn hz
 have hm : (n : Int) * (z : Int) = (a : Int) := by rw [ha]; simp
 have hwa : IntKind.i64.wrap (a : Int) = (a : Int) := i64_nat a (by omega)
 have hwa2 : wrap64 (a : Int) = (a : Int) := wrap64_nat a (by omega)
 obtain ⟨e, he⟩ : ∃ e, e = a + z := ⟨_, rfl⟩
 have he1 : (a : Int) + (z : Int) = (e : Int) := by omega
 have hwe : IntKind.i64.wrap (e : Int) = (e : Int) := i64_nat e (by omega)
 have hb : Below w.heap.size w (w.alloc (.cells #[.bool false, .int .u32 n, .string b] 108)) := (Below.refl _ _).alloc (Nat.le_refl _) _
 have HB := Lib.hid hb
 have hbk := Blk.new w 108 #[.bool false, .int .u32 n, .string b]
 have k0 := hbk.cell 0
 have k1 := hbk.cell 1
 have k2 := hbk.cell 2
 have hae : (a : Int) ≤ (e : Int) := by omega
 by_cases hle : e ≤ I.size
 ·have HT := Lib.hid (wr_sameZ (I := I) hs ha (by omega))
  rw [← he] at HT
  have HS := Lib.hid hs
  have x1 : (I.extract 0 a).size = a := by rw [ByteArray.size_extract]; omega
  have x2 : (I.extract e I.size).size ≤ 17592186044416 := by rw [ByteArray.size_extract]; omega
  have hc1 : ¬ (9223372036854775807 < (I.extract 0 a).size + b.size) := by omega
  have hc2 : ¬ (9223372036854775807 < (I.extract 0 a).size + b.size + (I.extract e I.size).size) := by omega
  have hc3 : ¬ (9223372036854775807 < min a I.size + b.size) := by omega
  have hc4 : ¬ (9223372036854775807 < min a I.size + b.size + (I.size - e)) := by omega
  have hc5 : ¬ (9223372036854775807 < a + b.size + (I.size - e)) := by omega
  have hi1 : (a : Int) ≤ (I.size : Int) := by omega
  have hi2 : (e : Int) ≤ (I.size : Int) := by omega
  have hd1 : ¬ (I.size : Int) < (e : Int) := by omega
  clear hb x1 x2 ha he hs
  go_enter Tryz.func54, Tryz.ntmps54
  go_wp2_with fail
  go_region
  go_wp2_with fail
  go_ret
  exact ⟨by rw [← HT.out]; rfl, HB.out.drew⟩
 ·have HT := Lib.hid (wr_moreZ (I := I) hs ha (by omega))
  rw [← he] at HT
  have HS := Lib.hid hs
  obtain ⟨d, hd⟩ : ∃ d, d = e - I.size := ⟨_, rfl⟩
  have ed : (e : Int) - (I.size : Int) = (d : Int) := by omega
  have hwd : IntKind.i64.wrap (d : Int) = (d : Int) := i64_nat d (by omega)
  have hd' := noughts11_any d (w.alloc (.cells #[.bool false, .int .u32 n, .string b] 108)) (by omega)
  rw [← hd] at HT
  have HD := Lib.hid hd
  have hd1 : (I.size : Int) < (e : Int) := by omega
  have HAE := Lib.hid (show a ≤ e by omega)
  have HSz := Lib.hid (show e = a + b.size by omega)
  have hJ0 : (I ++ zs d).size = e := by rw [ByteArray.size_append, zs_size, hd]; omega
  have hJc : ¬ (9223372036854775807 < I.size + (zs d).size) := by rw [zs_size]; omega
  clear hb hd ha he hs
  go_enter Tryz.func54, Tryz.ntmps54
  go_wp2_with fail
  refine hd'.mono ?_
  rintro e' w1 ⟨rfl, hb1⟩
  have hbk1 := hbk.below hb1 hbk.lt
  have j0 := hbk1.cell 0
  have j1 := hbk1.cell 1
  have j2 := hbk1.cell 2
  have hz := zs_size d
  have x1 : ((I ++ zs d).extract 0 a).size = a := by rw [ByteArray.size_extract]; have := HAE.out; omega
  have x2 : ((I ++ zs d).extract e e).size ≤ 17592186044416 := by rw [ByteArray.size_extract]; omega
  have hc1 : ¬ (9223372036854775807 < ((I ++ zs d).extract 0 a).size + b.size) := by have := HSz.out; omega
  have hc2 : ¬ (9223372036854775807 < ((I ++ zs d).extract 0 a).size + b.size + ((I ++ zs d).extract e e).size) := by have := HSz.out; omega
  have hc3 : ¬ (9223372036854775807 < min a e + b.size) := by have := HSz.out; omega
  have hc4 : ¬ (9223372036854775807 < a + b.size) := by have := HSz.out; omega
  clear x1 x2
  clear k0 k1 k2
  go_wp2_with fail
  go_region
  go_wp2_with fail
  go_ret
  refine ⟨?_, (HB.out.trans (hb1.mono (by simp))).drew⟩
  have hee : (I ++ zs d).extract e e = (⟨#[]⟩ : ByteArray) := by apply bytes_ext; rw [ext_list11]; simp
  have hap : ∀ x : ByteArray, x ++ (⟨#[]⟩ : ByteArray) = x := fun x => by apply bytes_ext; rw [ByteArray.data_append, Array.toList_append]; simp
  rw [← HT.out, hee, hap]
  rfl
theorem pgcell {w : World} {B n k : Nat} {ad : Addr} {L : List Pg} {y : Pg} (h : Reads w B 6 (some ad) n (pgcs L)) (hk : k < n) (hy : L[k]? = some y) : PgAt w (ad.add (k * 6)) y := by
 obtain ⟨ad', y', ha, _, hx, hc⟩ := page_at h hk
 injection ha with ha
 subst ha
 rw [hy] at hx
 injection hx with hx
 subst hx
 exact hc
set_option maxRecDepth 100000 in
set_option maxHeartbeats 12800000 in
theorem rlay11_any (size : Int) (img : ByteArray) (A : Option Addr) (n c : Nat) (L : List Pg) (w : World) (hi : img.size ≤ 8796093022208) (hr : Reads w w.heap.size 6 A n (pgcs L)) (hn : n ≤ 1000000) :
  Calls Tryz.prog 19 #[.int .i64 size, .string img, .slice A n c] w fun e w' => e = .returned (.tuple #[.string (layStr size img L), .int .i64 (layErr size img L)]) ∧ Below w.heap.size w w' := by
 have HR := Lib.hid hr
 have HL := Lib.hid (pgcs_len hr)
 clear hr
 go_enter Tryz.func19, Tryz.ntmps19
 go_wp2_with fail
 go_loopw [1, 8] (fun v i wr => ∃ (k : Nat) (im : ByteArray), k ≤ n ∧ i = .int .i64 k ∧ v = .string im ∧ Hid (layL size img (L.take k) = some im) ∧ im.size ≤ 8796093022208 ∧ Hid (Below w.heap.size w wr)) (fun _ i _ => n - (intOf i).toNat)
 case atStart => exact ⟨0, img, Nat.zero_le _, rfl, rfl, Lib.hid rfl, hi, Lib.hid (Below.refl _ _)⟩
 case round =>
  obtain ⟨k, im, hk, rfl, rfl, HV, hib, HB⟩ := hrel
  by_cases hlt : k < n
  ·obtain ⟨ad, y, rfl, _, hy, _⟩ := page_at (HR.out.below HB.out) hlt
   have hj0 : (0 : Int) ≤ k := by omega
   have hj1 : (k : Int) < n := by omega
   obtain ⟨d0, d1, d2, d3, d4, d5⟩ := pgcell (HR.out.below HB.out) hlt hy
   have HY := Lib.hid hy
   have htk := take_snoc_at hy
   have hvs := layL_snoc size img (L.take k) y
   rw [← htk, HV.out] at hvs
   obtain ⟨pk, pc, pn, pl, pt, pb⟩ := y
   simp only at d0 d1 d2 d3 d4 d5 hvs
   clear htk hy
   rcases hm : mayPg size pk pc pn pl pt pb with _ | _
   ·rw [hm] at hvs
    have HE := Lib.hid (layL_front hvs)
    have HP := fun w => rfput_no size pk pc pn pl pt pb w hm
    clear hvs hm
    go_wp2_with fail
    refine (HP _).mono ?_
    rintro e w2 ⟨rfl, hb⟩
    replace HB := Lib.hid (HB.out.trans (hb.mono HB.out.size))
    clear hb HP
    go_wp2_with fail
    go_ret2
    rw [(lay_no HE.out).1, (lay_no HE.out).2]
    exact ⟨rfl, HB.out⟩
   ·rw [hm] at hvs
    have hmm := hm
    simp only [mayPg, Bool.and_eq_true, decide_eq_true_eq] at hmm
    obtain ⟨k0, rfl⟩ := Int.eq_ofNat_of_zero_le (by omega : 0 ≤ pk)
    obtain ⟨c0, rfl⟩ := Int.eq_ofNat_of_zero_le (by omega : 0 ≤ pc)
    obtain ⟨z, rfl, hz1, hz2, _⟩ := good_nat hmm.1
    have hzt : ((z : Nat) : Int).toNat = z := by omega
    have hbs := (block_right (p := ⟨(k0 : Int), (c0 : Int), pn, pl, pt, pb⟩) hm).1
    have hbk : Pg.block ⟨(k0 : Int), (c0 : Int), pn, pl, pt, pb⟩ = pageB k0 c0 pn pl pt pb := rfl
    rw [hbk] at hbs hvs
    rw [hzt] at hvs
    have HP := fun w => rfput_yes z k0 c0 pn pl pt pb w hm
    obtain ⟨bk, hbkk⟩ : ∃ b, b = pageB k0 c0 pn pl pt pb := ⟨_, rfl⟩
    rw [← hbkk] at hbs hvs HP
    have HD := fun w => rdoesZ_any im bk z pn w (by omega) (by omega) (by omega) hbs
    have hsz := writeB_size z pn bk im hbs
    have hmul : pn * z ≤ 2147483647 * 4096 := Nat.mul_le_mul (by omega) (by omega)
    obtain ⟨im2, him2⟩ : ∃ x, x = writeB z pn bk im := ⟨_, rfl⟩
    rw [← him2] at HD hsz hvs
    have hib2 : im2.size ≤ 8796093022208 := by omega
    have HV2 := Lib.hid (show layL z img (L.take (k + 1)) = some im2 from hvs)
    clear hvs hm hmm hbs hbk hbkk hsz hmul him2 hzt
    go_wp2_with fail
    refine (HP _).mono ?_
    rintro e w2 ⟨rfl, hb⟩
    replace HB := Lib.hid (HB.out.trans (hb.mono HB.out.size))
    clear hb HP d0 d1 d2 d3 d4 d5
    obtain ⟨d0, d1, d2, d3, d4, d5⟩ := pgcell (HR.out.below HB.out) hlt HY.out
    simp only at d0 d1 d2 d3 d4 d5
    go_wp2_with fail
    refine (HD _).mono ?_
    rintro e w3 ⟨rfl, hb⟩
    have HB3 := Lib.hid (HB.out.trans (hb.mono HB.out.size))
    clear hb HD d0 d1 d2 d3 d4 d5 HB
    go_wp2_with fail
    go_roundw
    case rel =>
     first
      | exact ⟨k + 1, im2, by omega, by go_num, rfl, HV2, hib2, HB3⟩
      | ((repeat apply Exists.intro); exact ⟨⟨k + 1, im2, by omega, by go_num, rfl, HV2, hib2, HB3⟩, rfl⟩)
    case measure => simp [intOf]; omega
  ·obtain rfl : k = n := by omega
   have ht : L.take k = L := List.take_of_length_le (by rw [HL.out]; exact Nat.le_refl _)
   rw [ht] at HV
   clear hlt ht
   go_wp2_with fail
   go_ret2
   rw [(lay_yes HV.out).1, (lay_yes HV.out).2]
   exact ⟨rfl, HB.out⟩
end Go.Proofs.YtmmjckokjmpfpaaGreat

namespace Go.Proofs.YtmmjckokjmpfpaaGreat
open Go.RowKit
open Go.Lib hiding intOf
attribute [local go_sem ↓] Go.wp_at_zero Go.wp_at_succ

def PrAt (w : World) (p : Addr) (b : Pr) : Prop := w.cell? p = some (.string b.ky) ∧ w.cell? ⟨p.block, p.off + 1, none⟩ = some (.string b.vl)
theorem pr_at {w : World} {B n i : Nat} {A : Option Addr} {l : List Pr} (h : Reads w B 2 A n (prc l)) (hi : i < n) :
  ∃ ad x, A = some ad ∧ ad.block < B ∧ (ad.add (i * 2)).block < B ∧ l[i]? = some x ∧ PrAt w (ad.add (i * 2)) x := by
 obtain ⟨ad, x, hA, hb, hx, hc⟩ := row_at (fun b => Pr.cells_len b) (by decide) h hi
 exact ⟨ad, x, hA, hb, by rw [block_add]; exact hb, hx, cells2 hc⟩
theorem pr_len {w : World} {B n : Nat} {A : Option Addr} {l : List Pr} (h : Reads w B 2 A n (prc l)) : l.length = n := rows_len (fun b => Pr.cells_len b) (by decide) h
def LevOk : Nat → List Pg → List Fk → Prop
 | 0, L, F => F.length ≤ 1 ∧ L.length ≤ 1000000
 | d + 1, L, F => (F.length ≤ 1 ∧ L.length ≤ 1000000) ∨ (2 ≤ F.length ∧ brMay 128 (2 + L.length) (cutG sizeF 104 F.length F) = true ∧ F.length ≤ 1000 ∧ sizeF F ≤ 1000000 ∧ L.length ≤ 100000 ∧ LevOk d (L ++ brPgs 128 (2 + L.length) (cutG sizeF 104 F.length F)) (brFks (2 + L.length) (cutG sizeF 104 F.length F)))
def ptsY (l : List Pr) : List (List It) := cutG sizeI 104 l.length (itemsY 128 [] l).2
def pgsY (l : List Pr) : List Pg := (itemsY 128 [] l).1 ++ leafPgs 128 (2 + (itemsY 128 [] l).1.length) (ptsY l)
def fksY (l : List Pr) : List Fk := leafFks (2 + (itemsY 128 [] l).1.length) (ptsY l)
def okY (l : List Pr) : Bool := leafMay 128 (2 + (itemsY 128 [] l).1.length) (ptsY l)
def topY (l : List Pr) : List Pg × List Fk := levelsY 128 l.length (pgsY l) (fksY l)
def rootY (l : List Pr) : Nat := ((topY l).2.head?.map (·.rt)).getD 0
structure LayOk (l : List Pr) : Prop where
 few : l.length ≤ 1000
 vals : ∀ p ∈ l, p.vl.size ≤ 4096
 pgs : ∀ k, (itemsY 128 [] (l.take k)).1.length ≤ 100000
 near : NearI (itemsY 128 [] l).2
 size : sizeI (itemsY 128 [] l).2 ≤ 1000000
 lev : okY l = true → LevOk l.length (pgsY l) (fksY l)
def LaidPost (l : List Pr) (w : World) (e : Ending) (w' : World) : Prop :=
 Below w.heap.size w w' ∧ ((okY l = false ∧ e = .returned (.tuple #[.string ⟨#[]⟩, .int .u32 0, .bool false])) ∨
  (okY l = true ∧ e = .returned (.tuple #[.string (layStr 128 ⟨#[]⟩ (topY l).1), .int .u32 (rootY l), .bool (decide (layErr 128 ⟨#[]⟩ (topY l).1 = 0))])))
theorem LyStep.deep {b : Nat} {w w0 w' : World} {V' : Value} (h : LyStep b (.slice none 0 0) w0 V' w') (h0 : Below w.heap.size w w0) (hb : w.heap.size ≤ b) : Below w.heap.size w w' :=
 h0.trans ((h.kept.below (B := w.heap.size) (by rintro k (rfl | hk); exact hb; simp [Value.ownBlock] at hk) h0.size).mono (Nat.le_refl _))
theorem row_grow {w wa w5 : World} {b n B sz : Nat} {V V' so : Value} {L : List Pg} {xs : List Value} {e : TypeId} (hL : LyAt wa b V' L) (hS : LyStep b V w V' wa) (ho : wa.ownsRow B e sz so n xs) (hB : w.heap.size ≤ B) (hg : wa.grownBy w5 so.ownBlock) (h1 : 41 ≠ e) (h2 : e ≠ 74) :
  LyAt w5 b V' L ∧ LyStep b V w V' w5 :=
 have hk : Kept (fun k => so.ownBlock = some k) wa w5 := Kept.of_grown hg fun k e => e
 ⟨hL.kept hk (own_ne_blk ho hL.blk h2) (fun k hv hf => own_ne_own hL.own ho h1 hv hf), ⟨hS.kept.then hk (fun i hi => .inr (Nat.le_trans hB (own_base ho i hi))), hS.own⟩⟩
theorem levelsY_one {z d : Nat} {L : List Pg} {F : List Fk} (h : F.length ≤ 1) : levelsY z d L F = (L, F) := by
 cases d with
 | zero => rfl
 | succ d => rw [levelsY, if_pos h]
theorem levelsY_more {d : Nat} {L : List Pg} {F : List Fk} (h : 2 ≤ F.length) : levelsY 128 (d + 1) L F = levelsY 128 d (L ++ brPgs 128 (2 + L.length) (cutG sizeF 104 F.length F)) (brFks (2 + L.length) (cutG sizeF 104 F.length F)) := by
 rw [levelsY, if_neg (by omega)]
set_option maxRecDepth 100000 in
set_option maxHeartbeats 12800000 in
theorem laid_any (A : Option Addr) (n c : Nat) (l : List Pr) (w : World) (hr : Reads w w.heap.size 2 A n (prc l)) (hk : LayOk l) :
  Calls Tryz.prog 11 #[.int .i64 128, .slice A n c] w (LaidPost l w) := by
 have hln := pr_len hr
 have hn9 : n ≤ 1000 := hln ▸ hk.few
 have HL := Lib.hid hln
 have HK := Lib.hid hk
 have HR := Lib.hid hr
 obtain ⟨w0, hw0⟩ : ∃ x, x = w.alloc (.cells #[.int .i64 128, .slice none 0 0] 74) := ⟨_, rfl⟩
 have HB0 := Lib.hid (show Below w.heap.size w w0 by rw [hw0]; exact (Below.refl _ _).alloc (Nat.le_refl _) _)
 have HLy0 := Lib.hid (show LyAt w0 w.heap.size (.slice none 0 0) [] from ⟨by rw [hw0]; exact Blk.new _ _ _, World.ownsRow_nil _ _ _ _⟩)
 obtain ⟨i0, hi0, hz0, hz1, hz2⟩ := info_parts infoIt
 clear hr hk hln
 go_enter Tryz.func11, Tryz.ntmps11
 go_upto_region 2 with fail
 rw [← hw0]
 clear hw0
 go_wp2_with fail
 go_loopw [8, 9] (fun vo vi wr => ∃ (k : Nat) (A' : Option Addr) (c' : Nat) (V' : Value), k ≤ n ∧ vi = .int .i64 k ∧ vo = .slice A' k c' ∧ Hid (wr.ownsRow w0.heap.size 76 5 (.slice A' k c') k (itc (itemsY 128 [] (l.take k)).2)) ∧ Hid (LyAt wr w.heap.size V' (itemsY 128 [] (l.take k)).1) ∧ Hid (LyStep w.heap.size (.slice none 0 0) w0 V' wr)) (fun _ vi _ => n - (intOf vi).toNat)
 case atStart => exact ⟨0, none, 0, _, Nat.zero_le _, rfl, rfl, Lib.hid (World.ownsRow_nil _ _ _ _), HLy0, Lib.hid (LyStep.refl _ _ _)⟩
 case round =>
  obtain ⟨k, A', c', V', hkn, rfl, rfl, HO, HLy, HSt⟩ := hrel
  rename World => wo
  by_cases hlt : k < n
  ·have HRo := HR.out.below (HSt.out.deep HB0.out (Nat.le_refl _))
   obtain ⟨ad, ⟨ky, vl⟩, rfl, hab, hab2, hx, hat⟩ := pr_at HRo hlt
   have k0 := hat.1
   have k1 := hat.2
   dsimp only at k0 k1
   have hv : vl.size ≤ 4096 := HK.out.vals _ (List.mem_of_getElem? hx)
   have hg : decide ((4096 : Int) < (vl.size : Int)) = false := by simp; omega
   have hsn : itemsY 128 [] (l.take (k + 1)) = ((itemY 128 (itemsY 128 [] (l.take k)).1 ⟨ky, vl⟩).1, (itemsY 128 [] (l.take k)).2 ++ [(itemY 128 (itemsY 128 [] (l.take k)).1 ⟨ky, vl⟩).2]) := by rw [take_snoc_at hx, itemsY_snoc]
   have hI := yitem_any ky vl HLy.out (HK.out.pgs k) hv
   obtain ⟨LK, hLK⟩ : ∃ x, x = (itemsY 128 [] (l.take k)).1 := ⟨_, rfl⟩
   obtain ⟨IK, hIK⟩ : ∃ x, x = (itemsY 128 [] (l.take k)).2 := ⟨_, rfl⟩
   rw [← hLK] at HLy hI hsn
   rw [← hIK] at HO hsn
   obtain ⟨Lx, hLx⟩ : ∃ x, x = (itemY 128 LK ⟨ky, vl⟩).1 := ⟨_, rfl⟩
   obtain ⟨y, hy⟩ : ∃ x, x = (itemY 128 LK ⟨ky, vl⟩).2 := ⟨_, rfl⟩
   rw [← hLx, ← hy] at hI hsn
   obtain ⟨yk, yv, yo, yl, yh⟩ := y
   have HI : Calls Tryz.prog 36 #[.pointer (some ⟨w.heap.size, 0, none⟩), .agg #[.string ky, .string vl]] wo fun e w' => e = .returned (.agg #[.string yk, .string yv, .bool yo, .int .i64 yl, .int .u32 yh]) ∧ ∃ V1, LyAt w' w.heap.size V1 Lx ∧ LyStep w.heap.size V' wo V1 w' := hI
   have HSn := Lib.hid hsn
   clear hLK hIK hLx hy hI hsn hv hat hx hab HRo
   go_wp2_with (first
    | (go_at_call 36; refine HI.mono ?_; rintro e w1 ⟨rfl, V1, hL1, hS1⟩; have HL1 := Lib.hid (hL1.below ((Below.refl _ w1).alloc (Nat.le_refl _) (.cells #[.string yk, .string yv, .bool yo, .int .i64 yl, .int .u32 yh] 76))); have HS1 := Lib.hid ((HSt.out.trans hS1).below ((Below.refl _ w1).alloc (Nat.le_refl _) (.cells #[.string yk, .string yv, .bool yo, .int .i64 yl, .int .u32 yh] 76))); have HX := Lib.hid ((hS1.row HO.out (own_ne_blk HO.out HLy.out.blk (by decide)) (fun k hv hk => own_ne_own HLy.out.own HO.out (by decide) hv hk)).alloc (.cells #[.string yk, .string yv, .bool yo, .int .i64 yl, .int .u32 yh] 76)); clear hL1 hS1)
    | (at_builtin; refine wpList_append_any _ rfl (.tmp 31) (.tmp 38) _ rfl w0.heap.size 76 i0 _ 5 56 Tryz.underlying62 hi0 hz0 hz1 hz2 rfl (by omega) (.slice A' k c') k _ rfl HX.out (w1.heap.size + 1) (some ⟨w1.heap.size, 0, none⟩) 1 1 (itc [⟨yk, yv, yo, yl, yh⟩]) rfl (reads_own (n := 1) (Blk.new _ _ _) rfl) (itc_one _) (by unfold maxLen; omega) (by omega) HS1.out.kept.size ?_; intro v5 w5 hown5 hg5 hat5; rw [← itc_append] at hown5; obtain ⟨A5, c5, rfl, _, _, _⟩ := own_form hown5; have HO5 := Lib.hid hown5; have HG5 := Lib.hid hg5; clear hown5 hg5 hat5))
   go_roundw
   case rel =>
    obtain ⟨e1, e2⟩ := row_grow HL1.out HS1.out HX.out (Nat.le_refl _) HG5.out (by decide) (by decide)
    have E1 := HO5
    rw [show IK ++ [⟨yk, yv, yo, yl, yh⟩] = (itemsY 128 [] (l.take (k + 1))).2 by rw [HSn.out]] at E1
    have E2 := Lib.hid e1
    rw [show Lx = (itemsY 128 [] (l.take (k + 1))).1 by rw [HSn.out]] at E2
    have E3 := Lib.hid e2
    first
     | exact ⟨k + 1, A5, c5, V1, by omega, by go_num, rfl, E1, E2, E3⟩
     | ((repeat apply Exists.intro); exact ⟨⟨k + 1, A5, c5, V1, by omega, by go_num, rfl, E1, E2, E3⟩, rfl⟩)
   case measure => simp [intOf]; omega
  ·obtain rfl : k = n := by omega
   have htk : l.take k = l := List.take_of_length_le (by rw [HL.out]; exact Nat.le_refl _)
   rw [htk] at HO HLy
   have hlv := yleaves_any HLy.out HO.out hn9 HK.out.near HK.out.size (by have := HK.out.pgs k; rwa [htk] at this)
   clear hlt htk
   go_wp2_with (go_at_call 37; refine hlv.mono ?_; rintro e w1 ⟨V1, hS1, ⟨hm1, A1, n1, c1, rfl, hL1, hO1⟩ | ⟨hm1, rfl⟩⟩)
   rotate_left
   ·have HP := Lib.hid (show Below w.heap.size w w1 from (HSt.out.trans hS1).deep HB0.out (Nat.le_refl _))
    have HM := Lib.hid (show okY l = false by unfold okY ptsY; rw [HL.out]; exact hm1)
    clear hm1 hS1
    go_wp2_with fail
    go_ret3
    exact ⟨HP.out, .inl ⟨HM.out, rfl⟩⟩
   ·have HS1 := Lib.hid (HSt.out.trans hS1)
    have HM := Lib.hid (show okY l = true by unfold okY ptsY; rw [HL.out]; exact hm1)
    have HL1 := Lib.hid (show LyAt w1 w.heap.size V1 (pgsY l) by unfold pgsY ptsY; rw [HL.out]; exact hL1)
    have HO1 := Lib.hid (show w1.ownsRow w0.heap.size 45 2 (.slice A1 n1 c1) n1 (fkc (fksY l)) by unfold fksY ptsY; rw [HL.out]; exact own_low hO1 HSt.out.kept.size)
    have HN1 := Lib.hid (show (fksY l).length = n1 from fk_len (Reads.of_own HO1.out))
    have HLev := Lib.hid (show LevOk k (pgsY l) (fksY l) by have := HK.out.lev HM.out; rwa [HL.out] at this)
    clear hm1 hS1 hL1 hO1
    have hn1 := HN1.out
    subst hn1
    go_loopg [10] k (fun gd vf wr => ∃ (L : List Pg) (F : List Fk) (A2 : Option Addr) (c2 : Nat) (V2 : Value), vf = .slice A2 F.length c2 ∧ Hid (topY l = levelsY 128 gd L F) ∧ Hid (LevOk gd L F) ∧ Hid (wr.ownsRow w0.heap.size 45 2 (.slice A2 F.length c2) F.length (fkc F)) ∧ Hid (LyAt wr w.heap.size V2 L) ∧ Hid (LyStep w.heap.size (.slice none 0 0) w0 V2 wr))
    case atStart => exact ⟨_, _, A1, c1, V1, rfl, Lib.hid (by unfold topY; rw [HL.out]), HLev, HO1, HL1, HS1⟩
    case round =>
     obtain ⟨L, F, A2, c2, V2, rfl, HT, HLv, HO2, HL2, HS2⟩ := hrel
     rename World => wl
     by_cases h2 : 2 ≤ F.length
     ·obtain ⟨gd', hgd⟩ : ∃ d, gk = d + 1 := by
       cases gk with
       | zero => exact absurd HLv.out.1 (by omega)
       | succ d => exact ⟨d, rfl⟩
      subst hgd
      obtain ⟨hb1, hb2, hb3, hb4, hb5⟩ : brMay 128 (2 + L.length) (cutG sizeF 104 F.length F) = true ∧ F.length ≤ 1000 ∧ sizeF F ≤ 1000000 ∧ L.length ≤ 100000 ∧ LevOk gd' (L ++ brPgs 128 (2 + L.length) (cutG sizeF 104 F.length F)) (brFks (2 + L.length) (cutG sizeF 104 F.length F)) := by
       rcases HLv.out with h | h
       ·exact absurd h.1 (by omega)
       ·exact h.2
      have HLv2 := Lib.hid hb5
      have HT2 := Lib.hid (HT.out.trans (levelsY_more h2))
      have hbr := ybranches_any HL2.out HO2.out hb2 hb1 hb3 hb4
      have hg1 : decide ((1 : Int) < (F.length : Int)) = true := by simp; omega
      have hg2 : decide (1 < F.length) = true := by simp; omega
      clear hb1 hb2 hb3 hb4 hb5
      go_wp2_with (go_at_call 38; refine hbr.mono ?_; rintro e w3 ⟨V3, hS3, A3, n3, c3, rfl, hL3, hO3⟩)
      have hn3 := fk_len (Reads.of_own hO3)
      subst hn3
      have HO3 := Lib.hid (own_low hO3 HS2.out.kept.size)
      have HL3 := Lib.hid hL3
      have HS3 := Lib.hid (HS2.out.trans hS3)
      clear hO3 hL3 hS3 hbr
      go_roundg gd'
      case rel =>
       first
        | exact ⟨_, _, A3, c3, V3, rfl, HT2, HLv2, HO3, HL3, HS3⟩
        | ((repeat apply Exists.intro); exact ⟨⟨_, _, A3, c3, V3, rfl, HT2, HLv2, HO3, HL3, HS3⟩, rfl⟩)
      case measure => omega
     ·have hF1 : F.length ≤ 1 := by omega
      have hT := HT.out.trans (levelsY_one hF1)
      have hLl : L.length ≤ 1000000 := by
       cases gk with
       | zero => exact HLv.out.2
       | succ d =>
        rcases HLv.out with h | h
        ·exact h.2
        ·exact absurd h.1 h2
      have hg1 : decide ((1 : Int) < (F.length : Int)) = false := by simp; omega
      have hg2 : decide (1 < F.length) = false := by simp; omega
      obtain ⟨A4, c4, rfl, _, _, _⟩ := own_form HL2.out.own
      have HLay := rlay11_any 128 ⟨#[]⟩ A4 L.length c4 L wl (by show (0 : Nat) ≤ _; omega) (Reads.of_own HL2.out.own) hLl
      have HT2 := Lib.hid hT
      have cb1 := HL2.out.c1
      have HB2 := Lib.hid (HS2.out.deep HB0.out (Nat.le_refl _))
      obtain ⟨im, him⟩ : ∃ x, x = layStr 128 ⟨#[]⟩ L := ⟨_, rfl⟩
      obtain ⟨er, her⟩ : ∃ x, x = layErr 128 ⟨#[]⟩ L := ⟨_, rfl⟩
      rw [← him, ← her] at HLay
      have HIm := Lib.hid him
      have HEr := Lib.hid her
      have HEnd := Lib.hid (fun (b : Bool) (hb : decide (er = 0) = b) (rt : Nat) (hrt : rt = (F.head?.map (·.rt)).getD 0) (w5 : World) (hb5 : Below w.heap.size w w5) => (show LaidPost l w (.returned (.tuple #[.string im, .int .u32 rt, .bool b])) w5 from ⟨hb5, .inr ⟨HM.out, by rw [HIm.out, hrt, ← hb, HEr.out]; unfold rootY; rw [HT2.out]⟩⟩))
      clear hT hLl HT HLv him her
      match F, hF1, HO2, HT2, HEnd with
      | [], _, HO2, HT2, HEnd =>
       go_wp2_with (go_at_call 19; refine HLay.mono ?_; rintro e w5 ⟨rfl, hb5⟩; have HB5 := Lib.hid (HB2.out.trans (hb5.mono HB2.out.size)); clear hb5)
       go_ret3
       exact HEnd.out _ (by first | rfl | exact (beq_eq_decide _ _).symm | simp) 0 rfl _ HB5.out
      | [f], _, HO2, HT2, HEnd =>
       obtain ⟨g, cap, hv, _, _⟩ := HO2.out.form (by simp)
       injection hv with hA
       subst hA
       have q1 : wl.cell? ⟨g, 1, none⟩ = some (.int .u32 f.rt) := HO2.out.cells (g := g) rfl 1 (.int .u32 f.rt) rfl
       go_wp2_with (go_at_call 19; refine HLay.mono ?_; rintro e w5 ⟨rfl, hb5⟩; have HB5 := Lib.hid (HB2.out.trans (hb5.mono HB2.out.size)); clear hb5)
       go_ret3
       exact HEnd.out _ (by first | rfl | exact (beq_eq_decide _ _).symm | simp) f.rt rfl _ HB5.out
end Go.Proofs.YtmmjckokjmpfpaaGreat

namespace Go.Proofs.YtmmjckokjmpfpaaGreat
open Go.RowKit
open Go.Lib hiding intOf
attribute [local go_sem ↓] Go.wp_at_zero Go.wp_at_succ

theorem pr_noteq (a : ByteArray) (b : ByteArray) (w : World) : (binOp .neq 55 (.agg #[.string a, .string b]) (.agg #[.string a, .string b])).run Tryz.prog w = .ok (.bool false) w := by
 simp [go_sem]
set_option maxRecDepth 300000 in
set_option maxHeartbeats 3200000 in
theorem same12_yes (A : Option Addr) (n c : Nat) (A' : Option Addr) (c' : Nat) (l : List Pr) (w : World) {B B' : Nat} (hr : Reads w B 2 A n (prc l)) (hr' : Reads w B' 2 A' n (prc l)) (hn : n ≤ maxLen) :
  Calls Tryz.prog 24 #[.slice A n c, .slice A' n c'] w fun e w' => e = .returned (.bool true) ∧ ∃ q, w' = w.drewN q := by
 have HR := Lib.hid hr
 have HR' := Lib.hid hr'
 unfold maxLen at hn
 clear hr hr'
 go_enter Tryz.func24, Tryz.ntmps24
 go_wp2_with fail
 go_loopw [5] (fun i wr => ∃ k : Nat, k ≤ n ∧ i = .int .i64 k ∧ ∃ q, wr = w.drewN q) (fun i _ => n - (intOf i).toNat)
 case atStart => exact ⟨0, Nat.zero_le _, rfl, 0, rfl⟩
 case round =>
  obtain ⟨k, hk, rfl, q, hq⟩ := hrel
  by_cases hlt : k < n
  ·obtain ⟨ad, x, rfl, _, _, hx, hc⟩ := pr_at HR.out hlt
   obtain ⟨ad', x', rfl, _, _, hx', hc'⟩ := pr_at HR'.out hlt
   rw [hx] at hx'
   injection hx' with hx'
   subst hx'
   have hc : PrAt wr (ad.add (k * 2)) x := by rw [hq]; exact hc
   have hc' : PrAt wr (ad'.add (k * 2)) x := by rw [hq]; exact hc'
   obtain ⟨c0, c1⟩ := hc
   obtain ⟨d0, d1⟩ := hc'
   have hk0 : (0 : Int) ≤ k := by omega
   have hk1 : (k : Int) < n := by omega
   have HQ := Lib.hid hq
   have he := fun w => pr_noteq x.ky x.vl w
   clear hq hx
   go_wp2_with fail
   go_quiet (fail)
   go_wp2_with fail
   go_roundw
   case rel =>
    have hqq : ∃ q', wr.drewN nq = w.drewN q' := ⟨q + nq, by rw [HQ.out, World.drewN_drewN]⟩
    first
     | exact ⟨k + 1, by omega, by go_num, hqq⟩
     | ((repeat apply Exists.intro); exact ⟨⟨k + 1, by omega, by go_num, hqq⟩, rfl⟩)
   case measure => simp [intOf]; omega
  ·obtain rfl : k = n := by omega
   clear hlt hk
   have HQ := Lib.hid hq
   clear hq
   go_wp2_with fail
   go_ret
   exact ⟨rfl, q, HQ.out⟩
def sumP : List Pr → Nat
 | [] => 0
 | b :: l => b.ky.size + b.vl.size + sumP l
theorem sumP_snoc (l : List Pr) (b : Pr) : sumP (l ++ [b]) = sumP l + (b.ky.size + b.vl.size) := by
 induction l with
 | nil => simp [sumP]
 | cons c l ih => simp only [List.cons_append, sumP, ih]; omega
theorem sumP_take_succ {l : List Pr} {k : Nat} {x : Pr} (h : l[k]? = some x) : sumP (l.take (k + 1)) = sumP (l.take k) + (x.ky.size + x.vl.size) := by
 obtain ⟨hk, rfl⟩ := List.getElem?_eq_some_iff.1 h
 rw [List.take_succ_eq_append_getElem hk, sumP_snoc]
theorem sumP_take_le (l : List Pr) : ∀ k, sumP (l.take k) ≤ sumP l := by
 intro k
 induction l generalizing k with
 | nil => simp [sumP]
 | cons c l ih => cases k with
  | zero => simp [sumP]
  | succ k => simp only [List.take_succ_cons, sumP]; have := ih k; omega
def lightP (l : List Pr) : Bool := decide (l.length ≤ 60) && decide (sumP l ≤ 2500)
def NearP (l : List Pr) : Prop := ∀ b, b ∈ l → b.ky.size ≤ 140737488351232 ∧ b.vl.size ≤ 140737488351232
set_option maxRecDepth 300000 in
set_option maxHeartbeats 3200000 in
theorem lightP_any (A : Option Addr) (n c : Nat) (l : List Pr) (w : World) {B : Nat} (hr : Reads w B 2 A n (prc l)) (hn : n ≤ 300000000000000) (hx : NearP l) :
  Calls Tryz.prog 28 #[.slice A n c, .int .i64 60, .int .i64 2500] w fun e w' => e = .returned (.bool (lightP l)) ∧ ∃ q, w' = w.drewN q := by
 have HR := Lib.hid hr
 have HL := Lib.hid (pr_len hr)
 have HX := Lib.hid hx
 clear hr hx
 by_cases h100 : n ≤ 60
 rotate_left
 ·have h1' : ¬ (n : Int) ≤ 60 := by omega
  have HE := Lib.hid (show lightP l = false by simp [lightP, HL.out, h100])
  clear h100
  go_enter Tryz.func28, Tryz.ntmps28
  go_wp2_with fail
  go_ret
  exact ⟨by rw [HE.out]; rfl, 0, rfl⟩
 have h1' : (n : Int) ≤ 60 := by omega
 go_enter Tryz.func28, Tryz.ntmps28
 go_wp2_with fail
 go_loopw [7, 8] (fun s i wr => ∃ k : Nat, k ≤ n ∧ i = .int .i64 k ∧ s = .int .i64 (sumP (l.take k)) ∧ sumP (l.take k) ≤ 2500 ∧ ∃ q, wr = w.drewN q) (fun _ i _ => n - (intOf i).toNat)
 case atStart => exact ⟨0, Nat.zero_le _, rfl, by simp [sumP], by simp [sumP], 0, rfl⟩
 case round =>
  obtain ⟨k, hk, rfl, rfl, hs4, q, hq⟩ := hrel
  by_cases hlt : k < n
  ·obtain ⟨ad, x, rfl, _, _, hx, hc⟩ := pr_at HR.out hlt
   have hc : PrAt wr (ad.add (k * 2)) x := by rw [hq]; exact hc
   obtain ⟨c0, c1⟩ := hc
   have hk0 : (0 : Int) ≤ k := by omega
   have hk1 : (k : Int) < n := by omega
   have hxx := HX.out x (List.mem_of_getElem? hx)
   have hs := sumP_take_succ hx
   have HQ := Lib.hid hq
   have hz1 : x.ky.size ≤ 140737488351232 := hxx.1
   have hz2 : x.vl.size ≤ 140737488351232 := hxx.2
   by_cases hov : sumP (l.take (k + 1)) ≤ 2500
   ·have hle : ((sumP (l.take k) : Nat) : Int) + (x.ky.size : Int) + (x.vl.size : Int) ≤ 2500 := by omega
    have HS := Lib.hid hs
    have HO := Lib.hid hov
    clear hs hx hq hxx hov
    go_wp2_with fail
    go_quiet (fail)
    go_wp2_with fail
    go_roundw
    case rel =>
     have hqq : ∃ q', wr.drewN nq = w.drewN q' := ⟨q + nq, by rw [HQ.out, World.drewN_drewN]⟩
     have hse : ((sumP (l.take k) : Nat) : Int) + (x.ky.size : Int) + (x.vl.size : Int) = ((sumP (l.take (k + 1)) : Nat) : Int) := by rw [HS.out]; omega
     first
      | exact ⟨k + 1, by omega, by go_num, by rw [← hse], HO.out, hqq⟩
      | ((repeat apply Exists.intro); exact ⟨⟨k + 1, by omega, by go_num, by rw [← hse], HO.out, hqq⟩, rfl⟩)
    case measure => simp [intOf]; omega
   ·have hle : ¬ ((sumP (l.take k) : Nat) : Int) + (x.ky.size : Int) + (x.vl.size : Int) ≤ 2500 := by omega
    have HE := Lib.hid (show lightP l = false by
     have := sumP_take_le l (k + 1)
     have h4 : ¬ sumP l ≤ 2500 := by omega
     simp [lightP, h4])
    clear hs hx hq hxx hov
    go_wp2_with fail
    go_quiet (fail)
    go_wp2_with fail
    go_ret
    exact ⟨by rw [HE.out]; rfl, q + nq, by rw [HQ.out, World.drewN_drewN]⟩
  ·obtain rfl : k = n := by omega
   have ht : l.take k = l := List.take_of_length_le (by rw [HL.out]; exact Nat.le_refl _)
   rw [ht] at hs4
   have HE := Lib.hid (show lightP l = true by simp [lightP, HL.out, h100, hs4])
   have HQ := Lib.hid hq
   rw [ht]
   clear hlt hk ht hq
   go_wp2_with fail
   go_ret
   exact ⟨by rw [HE.out]; rfl, q, HQ.out⟩
end Go.Proofs.YtmmjckokjmpfpaaGreat

