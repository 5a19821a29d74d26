/-
  Texts that the main proof rests on, put together: CnMath2, CnMath3. No statement is proved here.
-/
import Derived.Test.YtabhhccdbfjigaaJ23
import Derived.Test.YtabhhccdbfjigaaJ28
import Derived.Test.YtabhhccdbfjigaaJ25
namespace Go.Proofs.Ytabhhccdbfjigaa
open Go.RowKit
open Go.Lib hiding intOf
set_option linter.unusedVariables false
set_option linter.unusedSimpArgs false

/-- What is read of an image behind a block that is no page. -/
theorem readAt_put {z c w : Nat} {img b : ByteArray} (hg : goodSize z = true) (hl : img.size = c * z) (hb : b.size = z) (hw : w < c) (hno : blockOk z w b = false) (n : Nat) :
    readAt z (writeB z w b img) n = if n = w then none else readAt z img n := by
  have hgp := good_pos hg
  obtain ⟨z', hzz, hz1, _⟩ := good_nat hg
  have hz0 : 0 < z := by omega
  have hil : img.data.toList.length = c * z := by rw [size_list, hl]
  have hbl : b.data.toList.length = z := by rw [size_list, hb]
  have hws : (writeB z w b img).size = c * z := by rw [← size_list, writeB_list, bWrite_pages z w c _ _ hil hbl, Nat.max_eq_left (by omega)]
  have hd1 : (writeB z w b img).size / z = c := by rw [hws, Nat.mul_div_cancel _ hz0]
  have hd2 : img.size / z = c := by rw [hl, Nat.mul_div_cancel _ hz0]
  have hzn : ((z : Nat) : Int).toNat = z := by omega
  unfold readAt
  rw [hzn, hd1, hd2, hg]
  by_cases hn : n < c
  · have hblk : blkOf z (writeB z w b img) n = if n = w then b else blkOf z img n := by
      apply bytes_ext
      rw [blkOf_list, writeB_list, pieceL_write z w c n _ _ hil hbl (by omega)]
      split
      · rfl
      · first | rw [blkOf_list] | rw [if_pos hn, blkOf_list]
    rw [hblk]
    by_cases h1 : n = w
    · rw [if_pos h1, if_pos h1, h1, hno]
      simp
    · rw [if_neg h1, if_neg h1]
  · rw [decide_eq_false hn, if_neg (by omega : ¬ n = w)]
    simp
/-- What is read of an image that is cut off. -/
theorem readAt_cut {z c m : Nat} {img : ByteArray} (hg : goodSize z = true) (hl : img.size = c * z) (hm : m ≤ c) (n : Nat) :
    readAt z (img.extract 0 (m * z)) n = if n < m then readAt z img n else none := by
  have hgp := good_pos hg
  obtain ⟨z', hzz, hz1, _⟩ := good_nat hg
  have hz0 : 0 < z := by omega
  have hle : m * z ≤ c * z := Nat.mul_le_mul_right _ hm
  have hs : (img.extract 0 (m * z)).size = m * z := by rw [ByteArray.size_extract]; omega
  have hzn : ((z : Nat) : Int).toNat = z := by omega
  unfold readAt
  rw [hzn, hs, hl, Nat.mul_div_cancel _ hz0, Nat.mul_div_cancel _ hz0, hg]
  by_cases hn : n < m
  · have h1 : n * z + z ≤ m * z := by rw [← Nat.succ_mul]; exact Nat.mul_le_mul_right _ hn
    have hblk : blkOf z (img.extract 0 (m * z)) n = blkOf z img n := by
      apply bytes_ext
      rw [blkOf_list, blkOf_list]
      unfold pieceL
      rw [ext_list11, List.drop_zero, Nat.sub_zero, List.drop_take, List.take_take, Nat.min_eq_left (by omega)]
    rw [hblk, if_pos hn, decide_eq_true hn, decide_eq_true (by omega : n < c)]
  · rw [if_neg hn, decide_eq_false hn]
    simp
theorem readAt_ok {z n : Nat} {img : ByteArray} {p : Pg} (h : readAt z img n = some p) : blockOk z n (blkOf z img n) = true := by
  unfold readAt at h
  rw [Int.toNat_natCast] at h
  split at h
  · rename_i hc
    simp only [Bool.and_eq_true] at hc
    exact hc.2.2
  · cases h

/-- Numbers at equal steps. -/
def stepP (F S n : Nat) : List Nat := (List.range n).map fun i => F + S * i
theorem stepP_len (F S n : Nat) : (stepP F S n).length = n := by simp [stepP]
theorem stepP_snoc (F S n : Nat) : stepP F S (n + 1) = stepP F S n ++ [F + S * n] := by unfold stepP; rw [List.range_succ, List.map_append]; rfl
theorem stepP_at {F S n i : Nat} (h : i < n) : nthU (stepP F S n) i = F + S * i := nthU_of (by unfold stepP; rw [List.getElem?_map, List.getElem?_range h]; rfl)
theorem nthU_takeB {l : List Nat} {k i : Nat} (h : i < k) : nthU (l.take k) i = nthU l i := nthU_take h
theorem step_lt {F S i j : Nat} (hS : 1 ≤ S) (h : i < j) : F + S * i < F + S * j := by
  have : S * i < S * j := Nat.mul_lt_mul_of_pos_left h (by omega)
  omega
theorem step_le {F S i n : Nat} (hF : F ≤ 11) (hS : S ≤ 3) (hi : i ≤ n) : F + S * i ≤ 11 + 3 * n := by
  have := Nat.mul_le_mul hS hi
  omega
theorem fine_step {F S n : Nat} (hF : 2 ≤ F) (hF2 : F ≤ 11) (hS : 1 ≤ S) (hS2 : S ≤ 3) (hn : n ≤ 1000) (a b : Nat) (hb : a + b ≤ n) : fineL (((stepP F S n).drop a).take b) = true := by
  have hlen : (((stepP F S n).drop a).take b).length = b := by rw [List.length_take, List.length_drop, stepP_len]; omega
  have hat : ∀ i, i < b → nthU (((stepP F S n).drop a).take b) i = F + S * (a + i) := fun i hi => by rw [nthU_take hi, nthU_drop, stepP_at (by omega)]
  refine fineL_iff.2 fun j hj => ?_
  rw [hlen] at hj
  rw [hat j hj]
  refine ⟨numB_iff.2 ?_, fun m hm => ?_⟩
  · have := step_le hF2 hS2 (show a + j ≤ n by omega)
    omega
  · rw [hat m (by omega)]
    have := step_lt (F := F) hS (show a + m < a + j by omega)
    omega
theorem onL_yesN {tx : Nat} {ps : List Nat} {v : ByteArray} (h2 : 0 < v.size) (h3 : v.size ≤ 4096) (h4 : (partsL 128 v).length = ps.length) (h5 : fineL ps = true) (h6 : tx ≤ 4611686018427387904) : onL 128 tx ps v = some ((List.range ps.length).map (onPg 128 tx ps v)) := by
  unfold onL
  rw [show goodSize 128 = true from rfl, decide_eq_true h2, decide_eq_true h3, decide_eq_true h4, h5, decide_eq_true h6]
  rfl
theorem listsL_yesN {tx : Nat} {ps ns : List Nat} (h2 : (allU ns && ascU ns) = true) (h4 : needF 128 ns.length ≤ ps.length) (h5 : fineL ps = true) (h6 : tx ≤ 4611686018427387904) : listsL 128 tx ps ns = some ((List.range ps.length).map (liPg 128 tx ps ns)) := by
  unfold listsL
  rw [show goodSize 128 = true from rfl, h2, decide_eq_true h4, h5, decide_eq_true h6]
  rfl
/-- All that the statement ChainBack asks of its pages. -/
theorem back_all {v : ByteArray} {ns ps : List Nat} {F S N K : Nat} (hF : 2 ≤ F) (hF2 : F ≤ 11) (hS : 1 ≤ S) (hS2 : S ≤ 3) (hv : 0 < v.size) (hv2 : v.size ≤ 600) (hns : ns.length ≤ 60) (hal : (allU ns && ascU ns) = true) (hN : N = needN 128 v.size) (hK : K = needF 128 ns.length) (hps : ps = stepP F S (N + K)) :
    1 ≤ N ∧ N ≤ 6 ∧ K ≤ 3 ∧ ∃ LA LB im1 im2, onL 128 4 (ps.take N) v = some LA ∧ listsL 128 4 (ps.drop N) ns = some LB ∧ layL 128 ⟨#[]⟩ LA = some im1 ∧ layL 128 im1 LB = some im2 ∧ im1.size ≤ 100000 ∧ im2.size = (F + S * (N + K - 1) + 1) * 128 ∧
      readV 128 im2 F v.size = some (v, ps.take N) ∧ readV 128 im2 F (v.size + 1) = none ∧ listV 128 im2 (nthU ps N) = some (ns, ps.drop N) ∧
      (∀ j, j < N → blockOk 128 (F + S * j) (blkOf 128 im2 (F + S * j)) = true ∧ ∀ b, b.size = 128 → blockOk 128 (F + S * j) b = false → readV 128 (writeB 128 (F + S * j) b im2) F v.size = none) ∧
      readV 128 (im2.extract 0 ((F + S * (N - 1)) * 128)) F v.size = none := by
  have hg : goodSize ((128 : Nat) : Int) = true := rfl
  have h104 : needN 128 (v.size : Int) = (v.size - 1) / 104 + 1 := by
    unfold needN
    rw [show goodSize 128 = true from rfl, decide_eq_true (show (1 : Int) ≤ v.size by omega)]
    rfl
  have hN1 : 1 ≤ N ∧ N ≤ 6 := by omega
  have hK1 : K ≤ 3 := by
    rw [hK]
    unfold needF
    split
    · rename_i hc
      have : mostN 128 = 26 := by decide
      rw [this]
      omega
    · omega
  have hlen : ps.length = N + K := by rw [hps, stepP_len]
  have hfa : fineL (ps.take N) = true := by
    have := fine_step hF hF2 hS hS2 (show N + K ≤ 1000 by omega) 0 N (by omega)
    rwa [List.drop_zero, ← hps] at this
  have hfb : fineL (ps.drop N) = true := by
    have := fine_step hF hF2 hS hS2 (show N + K ≤ 1000 by omega) N K (by omega)
    rwa [← hps, List.take_of_length_le (by rw [List.length_drop, hlen]; omega)] at this
  obtain ⟨LA, hLA⟩ : ∃ L, onL 128 4 (ps.take N) v = some L := ⟨_, onL_yesN hv (by omega) (by rw [parts_need, ← hN, List.length_take, hlen]; omega) hfa (by decide)⟩
  obtain ⟨LB, hLB⟩ : ∃ L, listsL 128 4 (ps.drop N) ns = some L := ⟨_, listsL_yesN hal (by rw [← hK, List.length_drop, hlen]; omega) hfb (by decide)⟩
  have hLA' : onL ((128 : Nat) : Int) 4 (ps.take N) v = some LA := hLA
  have hLB' : listsL ((128 : Nat) : Int) 4 (ps.drop N) ns = some LB := hLB
  have hnA : nosP LA = ps.take N := on_nos (onL_some hLA').2.2.2.2.2.2
  have hnB : nosP LB = ps.drop N := li_nos (listsL_some hLB').2.2.2.2.2.2
  have hat : ∀ i, i < N + K → nthU ps i = F + S * i := fun i hi => by rw [hps]; exact stepP_at hi
  have hAlen : LA.length = N := by rw [← nosP_len, hnA, List.length_take, hlen]; omega
  have hBlen : LB.length = K := by rw [← nosP_len, hnB, List.length_drop, hlen]; omega
  have hApg : ∀ i p, LA[i]? = some p → i < N ∧ p.pg = F + S * i := fun i p hp => by
    have h1 := nosP_at hp
    have h2 := (List.getElem?_eq_some_iff.1 hp).1
    rw [hnA, nthU_take (by omega), hat i (by omega)] at h1
    exact ⟨by omega, h1.symm⟩
  have hBpg : ∀ i p, LB[i]? = some p → i < K ∧ p.pg = F + S * (N + i) := fun i p hp => by
    have h1 := nosP_at hp
    have h2 := (List.getElem?_eq_some_iff.1 hp).1
    rw [hnB, nthU_drop, hat (N + i) (by omega)] at h1
    exact ⟨by omega, h1.symm⟩
  have hAmem : ∀ p ∈ LA, ∃ i, i < N ∧ p.pg = F + S * i := fun p hp => by
    obtain ⟨i, hi⟩ := List.getElem?_of_mem hp
    exact ⟨i, hApg i p hi⟩
  have hBmem : ∀ p ∈ LB, ∃ i, i < K ∧ p.pg = F + S * (N + i) := fun p hp => by
    obtain ⟨i, hi⟩ := List.getElem?_of_mem hp
    exact ⟨i, hBpg i p hi⟩
  obtain ⟨im1, C1, a1, a2, a3, a4, a5, a6, a7⟩ := lay_reads (z := 128) LA 0 ⟨#[]⟩ (on_may hLA') rfl
  obtain ⟨im2, C2, b1, b2, b3, b4, b5, b6, b7⟩ := lay_reads (z := 128) LB C1 im1 (li_may hLB') a2
  have hA1 : C1 ≤ F + S * (N - 1) + 1 := a5 _ (Nat.zero_le _) (fun p hp => by
    obtain ⟨i, hi, he⟩ := hAmem p hp
    have : S * i ≤ S * (N - 1) := Nat.mul_le_mul_left _ (by omega)
    omega)
  have hlastN : S * (N - 1) ≤ S * (N + K - 1) := Nat.mul_le_mul_left _ (by omega)
  have hlast3 : S * (N + K - 1) ≤ 3 * 8 := Nat.mul_le_mul hS2 (by omega)
  have hC2 : C2 = F + S * (N + K - 1) + 1 := by
    apply Nat.le_antisymm
    · refine b5 _ (by omega) (fun p hp => ?_)
      obtain ⟨i, hi, he⟩ := hBmem p hp
      have : S * (N + i) ≤ S * (N + K - 1) := Nat.mul_le_mul_left _ (by omega)
      omega
    · by_cases h0 : K = 0
      · obtain ⟨p, hp⟩ : ∃ p, LA[N - 1]? = some p := ⟨LA[N - 1], List.getElem?_eq_getElem (by omega)⟩
        have h1 := a4 p (List.mem_of_getElem? hp)
        have h2 := (hApg _ _ hp).2
        rw [show N + K - 1 = N - 1 by omega]
        omega
      · obtain ⟨p, hp⟩ : ∃ p, LB[K - 1]? = some p := ⟨LB[K - 1], List.getElem?_eq_getElem (by omega)⟩
        have h1 := b4 p (List.mem_of_getElem? hp)
        have h2 := (hBpg _ _ hp).2
        rw [show N + (K - 1) = N + K - 1 by omega] at h2
        omega
  have hrA : ∀ p ∈ LA, readAt ((128 : Nat) : Int) im2 p.pg = some p := fun p hp => by
    obtain ⟨i, hi, he⟩ := hAmem p hp
    rw [b6 p.pg (fun q hq e => by
      obtain ⟨j, hj, hqe⟩ := hBmem q hq
      have := step_lt (F := F) hS (show i < N + j by omega)
      omega)]
    exact a7 (by rw [hnA]; exact fine_nodup hfa) p hp
  have hrB : ∀ p ∈ LB, readAt ((128 : Nat) : Int) im2 p.pg = some p := b7 (by rw [hnB]; exact fine_nodup hfb)
  have hh0 : nthU (ps.take N) 0 = F := by rw [nthU_take (by omega), hat 0 (by omega)]; omega
  have hv1 := value_back hLA' hrA v.size
  have hv2' := value_back hLA' hrA (v.size + 1)
  rw [hh0, if_pos rfl] at hv1
  rw [hh0, if_neg (by omega)] at hv2'
  have hl1 := list_back hLB' hrB
  rw [nthU_drop, Nat.add_zero] at hl1
  refine ⟨hN1.1, hN1.2, hK1, LA, LB, im1, im2, hLA, hLB, a1, b1, ?_, ?_, hv1, hv2', hl1, ?_, ?_⟩
  · rw [a2]
    have : F + S * (N - 1) + 1 ≤ 36 := by omega
    omega
  · rw [b2, hC2]
  · intro j hj
    obtain ⟨p, hp⟩ : ∃ p, LA[j]? = some p := ⟨LA[j], List.getElem?_eq_getElem (by omega)⟩
    have hpg := (hApg j p hp).2
    have hjl : F + S * j < C2 := by rw [← hpg]; exact Nat.lt_of_lt_of_le (a4 p (List.mem_of_getElem? hp)) b3
    refine ⟨?_, fun b hb hno => ?_⟩
    · have h1 := hrA p (List.mem_of_getElem? hp)
      rw [hpg] at h1
      exact readAt_ok h1
    · have hrw := fun n => readAt_put hg b2 hb hjl hno n
      have := value_broken (s := writeB 128 (F + S * j) b im2) hLA' hp (fun i q hi hq => by
        have hqg := (hApg i q hq).2
        have := step_lt (F := F) hS hi
        rw [hrw, if_neg (by omega)]
        exact hrA q (List.mem_of_getElem? hq)) (by rw [hrw, if_pos hpg]) v.size
      rwa [hh0] at this
  · obtain ⟨p, hp⟩ : ∃ p, LA[N - 1]? = some p := ⟨LA[N - 1], List.getElem?_eq_getElem (by omega)⟩
    have hpg := (hApg _ p hp).2
    have hrw := fun n => readAt_cut (m := F + S * (N - 1)) hg b2 (by omega) n
    have := value_broken (s := im2.extract 0 ((F + S * (N - 1)) * 128)) hLA' hp (fun i q hi hq => by
      have hqg := (hApg i q hq).2
      have := step_lt (F := F) hS hi
      rw [hrw, if_pos (by omega)]
      exact hrA q (List.mem_of_getElem? hq)) (by rw [hrw, if_neg (by omega)]) v.size
    rwa [hh0] at this
end Go.Proofs.Ytabhhccdbfjigaa
namespace Go.Proofs.Ytabhhccdbfjigaa
open Go.RowKit
open Go.Lib hiding intOf
set_option linter.unusedVariables false
set_option linter.unusedSimpArgs false

theorem piece_get {z n j : Nat} (a : List UInt8) (hj : j < z) : (pieceL z n a)[j]? = a[n * z + j]? := by
  unfold pieceL
  rw [List.getElem?_take_of_lt hj, List.getElem?_drop]
/-- An image is told by its pages. -/
theorem image_ext {z c : Nat} {a b : List UInt8} (hz : 0 < z) (ha : a.length = c * z) (hb : b.length = c * z) (h : ∀ n, n < c → pieceL z n a = pieceL z n b) : a = b := by
  apply List.ext_getElem?
  intro i
  by_cases hi : i < c * z
  · have h1 : i / z < c := (Nat.div_lt_iff_lt_mul hz).2 hi
    have h2 : i % z < z := Nat.mod_lt _ hz
    have h3 : i / z * z + i % z = i := by rw [Nat.mul_comm]; exact Nat.div_add_mod i z
    have e1 := piece_get (n := i / z) a h2
    have e2 := piece_get (n := i / z) b h2
    rw [h3] at e1 e2
    rw [← e1, ← e2, h _ h1]
  · rw [List.getElem?_eq_none (by omega), List.getElem?_eq_none (by omega)]
theorem write_comm {z c n m : Nat} {b1 b2 img : ByteArray} (hz : 0 < z) (hl : img.size = c * z) (h1 : b1.size = z) (h2 : b2.size = z) (hne : n ≠ m) :
    writeB z n b1 (writeB z m b2 img) = writeB z m b2 (writeB z n b1 img) := by
  have hil : img.data.toList.length = c * z := by rw [size_list, hl]
  have hb1 : b1.data.toList.length = z := by rw [size_list, h1]
  have hb2 : b2.data.toList.length = z := by rw [size_list, h2]
  have l1 : (bWrite z m b2.data.toList img.data.toList).length = max c (m + 1) * z := bWrite_pages z m c _ _ hil hb2
  have l2 : (bWrite z n b1.data.toList img.data.toList).length = max c (n + 1) * z := bWrite_pages z n c _ _ hil hb1
  have l3 := bWrite_pages z n _ b1.data.toList _ l1 hb1
  have l4 := bWrite_pages z m _ b2.data.toList _ l2 hb2
  have hmx : max (max c (n + 1)) (m + 1) = max (max c (m + 1)) (n + 1) := by omega
  rw [hmx] at l4
  apply bytes_ext
  rw [writeB_list, writeB_list, writeB_list, writeB_list]
  refine image_ext hz l3 l4 fun k hk => ?_
  rw [pieceL_write z n _ k _ _ l1 hb1 (by omega), pieceL_write z m _ k _ _ l2 hb2 (by omega)]
  by_cases e1 : k = n
  · rw [if_pos e1, if_neg (by omega), if_pos (by omega), pieceL_write z n _ k _ _ hil hb1 (by omega), if_pos e1]
  · rw [if_neg e1]
    by_cases e2 : k = m
    · rw [if_pos e2, if_pos (by omega), pieceL_write z m _ k _ _ hil hb2 (by omega), if_pos e2]
    · rw [if_neg e2]
      by_cases e3 : k < max c (m + 1)
      · rw [if_pos e3, pieceL_write z m _ k _ _ hil hb2 (by omega), if_neg e2]
        by_cases e4 : k < max c (n + 1)
        · rw [if_pos e4, pieceL_write z n _ k _ _ hil hb1 (by omega), if_neg e1]
        · rw [if_neg e4, if_neg (by omega)]
      · rw [if_neg e3]
        by_cases e4 : k < max c (n + 1)
        · rw [if_pos e4, pieceL_write z n _ k _ _ hil hb1 (by omega), if_neg e1, if_neg (by omega)]
        · rw [if_neg e4]
theorem lay_step {z c : Nat} {img : ByteArray} {p : Pg} (L : List Pg) (h : mayPg z p.kd p.ct p.pg p.lk p.tx p.bd = true) : layL z img (p :: L) = layL z (writeB z p.pg p.block img) L := by
  rw [layL_cons _ _ _ _ h, Int.toNat_natCast]
/-- A page that is laid ahead of others is laid behind them. -/
theorem lay_swap {z : Nat} {p : Pg} (hz : 0 < z) (hp : mayPg z p.kd p.ct p.pg p.lk p.tx p.bd = true) : ∀ (L : List Pg) (c : Nat) (img : ByteArray), (∀ q ∈ L, mayPg z q.kd q.ct q.pg q.lk q.tx q.bd = true) → (∀ q ∈ L, q.pg ≠ p.pg) → img.size = c * z →
    layL z (writeB z p.pg p.block img) L = (layL z img L).map (writeB z p.pg p.block)
  | [], c, img, _, _, _ => rfl
  | q :: L, c, img, hm, hne, hl => by
    have hq := hm q List.mem_cons_self
    rw [lay_step (c := 0) L hq, lay_step (c := 0) L hq, write_comm hz hl (block_right hq).1 (block_right hp).1 (hne q List.mem_cons_self)]
    exact lay_swap hz hp L _ _ (fun r hr => hm r (List.mem_cons_of_mem _ hr)) (fun r hr => hne r (List.mem_cons_of_mem _ hr)) (write_size hq hl)
theorem lay_append (size : Int) (img : ByteArray) (L M : List Pg) : layL size img (L ++ M) = (layL size img L).bind fun i => layL size i M := by
  rcases h : layL size img L with _ | i
  · exact layL_none h M
  · have : ∀ M, layL size img (L ++ M) = layL size i M := by
      intro M
      unfold layL at h ⊢
      rw [List.foldl_append, h]
    exact this M
/-- Two lists of pages of different numbers may be laid in either order. -/
theorem lay_two {z : Nat} {M : List Pg} (hz : 0 < z) (hM : ∀ q ∈ M, mayPg z q.kd q.ct q.pg q.lk q.tx q.bd = true) : ∀ (L : List Pg) (c : Nat) (img : ByteArray), (∀ p ∈ L, mayPg z p.kd p.ct p.pg p.lk p.tx p.bd = true) → (∀ p ∈ L, ∀ q ∈ M, q.pg ≠ p.pg) → img.size = c * z →
    ((layL z img M).bind fun i => layL z i L) = (layL z img L).bind fun i => layL z i M
  | [], c, img, _, _, _ => by
    show ((layL z img M).bind fun i => some i) = layL z img M
    cases layL z img M <;> rfl
  | p :: L, c, img, hm, hne, hl => by
    have hp := hm p List.mem_cons_self
    have ih := lay_two hz hM L _ (writeB z p.pg p.block img) (fun r hr => hm r (List.mem_cons_of_mem _ hr)) (fun r hr => hne r (List.mem_cons_of_mem _ hr)) (write_size hp hl)
    rw [lay_swap hz hp M c img hM (hne p List.mem_cons_self) hl] at ih
    rw [lay_step (c := 0) L hp, ← ih]
    cases layL z img M with
    | none => rfl
    | some i => exact lay_step (c := 0) L hp
theorem runW_at {f n i : Nat} (hi : i < n) (h : f + n ≤ 1000000) : nthU (runW f n) i = f + i := nthU_of (by unfold runW; rw [List.getElem?_map, List.getElem?_range hi]; show some ((f + i) % 4294967296) = _; rw [Nat.mod_eq_of_lt (by omega)])
theorem fine_run {f n : Nat} (hf : 2 ≤ f) (h : f + n ≤ 1000000) : fineL (runW f n) = true := by
  refine fineL_iff.2 fun j hj => ?_
  rw [runW_len] at hj
  rw [runW_at hj h]
  refine ⟨numB_iff.2 (by omega), fun m hm => ?_⟩
  rw [runW_at (by omega) h]
  omega
/-- All that the statement ChainPlaces asks of its pages. -/
theorem places_all {a b : ByteArray} {F G na nb : Nat} (hF : 2 ≤ F) (hF2 : F ≤ 11) (ha : 0 < a.size) (ha2 : a.size ≤ 500) (hb : 0 < b.size) (hb2 : b.size ≤ 500) (hna : na = needN 128 a.size) (hnb : nb = needN 128 b.size) (hG : F + na ≤ G) (hG2 : G ≤ 100) :
    1 ≤ na ∧ na ≤ 5 ∧ 1 ≤ nb ∧ nb ≤ 5 ∧ ∃ LA LB x1 x, pagesL 128 1 F a = some LA ∧ pagesL 128 2 G b = some LB ∧ LA.length = na ∧ LB.length = nb ∧ layL 128 ⟨#[]⟩ LB = some x1 ∧ layL 128 x1 LA = some x ∧ layL 128 ⟨#[]⟩ (LA ++ LB) = some x ∧ x1.size ≤ 100000 ∧ x.size ≤ 100000 ∧
      (∀ len : Int, readV 128 x F len = if (a.size : Int) = len then some (a, runW F na) else none) ∧ readV 128 x G b.size = some (b, runW G nb) := by
  have h104 : ∀ v : ByteArray, 0 < v.size → needN 128 (v.size : Int) = (v.size - 1) / 104 + 1 := fun v hv => by
    unfold needN
    rw [show goodSize 128 = true from rfl, decide_eq_true (show (1 : Int) ≤ v.size by omega)]
    rfl
  have n1 := h104 a ha
  have n2 := h104 b hb
  have g1 : 1 ≤ na ∧ na ≤ 5 := by omega
  have g2 : 1 ≤ nb ∧ nb ≤ 5 := by omega
  obtain ⟨LA, hLA⟩ : ∃ L, onL 128 1 (runW F na) a = some L := ⟨_, onL_yesN ha (by omega) (by rw [parts_need, ← hna, runW_len]) (fine_run hF (by omega)) (by decide)⟩
  obtain ⟨LB, hLB⟩ : ∃ L, onL 128 2 (runW G nb) b = some L := ⟨_, onL_yesN hb (by omega) (by rw [parts_need, ← hnb, runW_len]) (fine_run (by omega) (by omega)) (by decide)⟩
  have hLA' : onL ((128 : Nat) : Int) 1 (runW F na) a = some LA := hLA
  have hLB' : onL ((128 : Nat) : Int) 2 (runW G nb) b = some LB := hLB
  have hnA : nosP LA = runW F na := on_nos (onL_some hLA').2.2.2.2.2.2
  have hnB : nosP LB = runW G nb := on_nos (onL_some hLB').2.2.2.2.2.2
  have hlA : LA.length = na := by rw [← nosP_len, hnA, runW_len]
  have hlB : LB.length = nb := by rw [← nosP_len, hnB, runW_len]
  have hAmem : ∀ p ∈ LA, F ≤ p.pg ∧ p.pg < F + na := fun p hp => by
    obtain ⟨i, hi⟩ := List.getElem?_of_mem hp
    have h1 := nosP_at hi
    have h2 := (List.getElem?_eq_some_iff.1 hi).1
    rw [hnA, runW_at (by omega) (by omega)] at h1
    omega
  have hBmem : ∀ p ∈ LB, G ≤ p.pg ∧ p.pg < G + nb := fun p hp => by
    obtain ⟨i, hi⟩ := List.getElem?_of_mem hp
    have h1 := nosP_at hi
    have h2 := (List.getElem?_eq_some_iff.1 hi).1
    rw [hnB, runW_at (by omega) (by omega)] at h1
    omega
  have hdis : ∀ p ∈ LA, ∀ q ∈ LB, q.pg ≠ p.pg := fun p hp q hq => by
    have := hAmem p hp
    have := hBmem q hq
    omega
  obtain ⟨x1, C1, a1, a2, a3, a4, a5, a6, a7⟩ := lay_reads (z := 128) LB 0 ⟨#[]⟩ (on_may hLB') rfl
  obtain ⟨x, C2, b1, b2, b3, b4, b5, b6, b7⟩ := lay_reads (z := 128) LA C1 x1 (on_may hLA') a2
  have hC1 : C1 ≤ G + nb := a5 _ (Nat.zero_le _) (fun p hp => (hBmem p hp).2)
  have hC2 : C2 ≤ G + nb := b5 _ hC1 (fun p hp => by have := (hAmem p hp).2; omega)
  have hrA : ∀ p ∈ LA, readAt ((128 : Nat) : Int) x p.pg = some p := b7 (by rw [hnA]; exact fine_nodup (fine_run hF (by omega)))
  have hrB : ∀ p ∈ LB, readAt ((128 : Nat) : Int) x p.pg = some p := fun p hp => by
    rw [b6 p.pg (fun q hq e => hdis q hq p hp e.symm)]
    exact a7 (by rw [hnB]; exact fine_nodup (fine_run (by omega) (by omega))) p hp
  have hsw : layL 128 ⟨#[]⟩ (LA ++ LB) = some x := by
    rw [lay_append]
    have h := lay_two (z := 128) (M := LB) (by decide) (on_may hLB') LA 0 ⟨#[]⟩ (on_may hLA') hdis rfl
    have h1 : layL 128 ⟨#[]⟩ LB = some x1 := a1
    have h2 : layL 128 x1 LA = some x := b1
    have h3 : ((layL ((128 : Nat) : Int) ⟨#[]⟩ LB).bind fun i => layL ((128 : Nat) : Int) i LA) = some x := by
      show ((layL 128 ⟨#[]⟩ LB).bind fun i => layL 128 i LA) = some x
      rw [h1]
      exact h2
    rw [h3] at h
    exact h.symm
  refine ⟨g1.1, g1.2, g2.1, g2.2, LA, LB, x1, x, ?_, ?_, hlA, hlB, a1, b1, hsw, by rw [a2]; omega, by rw [b2]; omega, fun len => ?_, ?_⟩
  · unfold pagesL; rw [← hna]; exact hLA
  · unfold pagesL; rw [← hnb]; exact hLB
  · have h := value_back hLA' hrA len
    rw [runW_at (by omega) (by omega)] at h
    exact h
  · have h := value_back hLB' hrB b.size
    rw [runW_at (by omega) (by omega), if_pos rfl] at h
    exact h
end Go.Proofs.Ytabhhccdbfjigaa
