/-
  Texts that the main proof rests on, put together: CnMath, Ref11R. No statement is proved here.
-/
import Derived.Test.YtabhhccdbfjigaaJ17
import Derived.Test.YtabhhccdbfjigaaJ21
import Derived.Test.YtabhhccdbfjigaaJ22
import Derived.Deep.CutRange
namespace Go.Proofs.Ytabhhccdbfjigaa
open Go.RowKit
open Go.Lib hiding intOf
set_option linter.unusedVariables false
set_option linter.unusedSimpArgs false

/-- The numbers of pages. -/
def nosP (L : List Pg) : List Nat := L.map (·.pg)
theorem nosP_len (L : List Pg) : (nosP L).length = L.length := by simp [nosP]
theorem nthU_out {l : List Nat} {i : Nat} (h : l.length ≤ i) : nthU l i = 0 := by unfold nthU; rw [List.getElem?_eq_none h]; rfl
theorem nextL_is (l : List Nat) (i : Nat) : nextL l i = nthU l (i + 1) := by
  unfold nextL
  split
  · rfl
  · rw [nthU_out (by omega)]
theorem nosP_at {L : List Pg} {i : Nat} {p : Pg} (h : L[i]? = some p) : nthU (nosP L) i = p.pg := by
  unfold nthU nosP
  rw [List.getElem?_map, h]
  rfl
theorem wasIn_no {L : List Pg} {n : Nat} (h : ∀ p ∈ L, p.pg ≠ n) : wasIn L n = false := by
  unfold wasIn
  rw [List.any_eq_false]
  intro p hp
  simpa using h p hp
theorem wasIn_yes {L : List Pg} {p : Pg} (h : p ∈ L) : wasIn L p.pg = true := by
  unfold wasIn
  rw [List.any_eq_true]
  exact ⟨p, h, by simp⟩
theorem nodup_front {L : List Pg} {k : Nat} {p : Pg} (hnd : (nosP L).Nodup) (hp : L[k]? = some p) : ∀ q ∈ L.take k, q.pg ≠ p.pg := by
  intro q hq he
  obtain ⟨i, hi, rfl⟩ := List.getElem_of_mem hq
  rw [List.length_take] at hi
  obtain ⟨hk, rfl⟩ := List.getElem?_eq_some_iff.1 hp
  rw [List.getElem_take] at he
  have h1 := (List.pairwise_iff_getElem.1 hnd) i k (by rw [nosP_len]; omega) (by rw [nosP_len]; omega) (by omega)
  unfold nosP at h1
  rw [List.getElem_map, List.getElem_map] at h1
  exact h1 he
/-- Pages that are linked in this order. -/
def linkedL (kd : Int) (L : List Pg) : Prop := (nosP L).Nodup ∧ ∀ i p, L[i]? = some p → p.kd = kd ∧ 2 ≤ p.pg ∧ p.lk = nthU (nosP L) (i + 1)
theorem chain_go {size : Int} {s : ByteArray} {kd : Int} {L : List Pg} {j : Nat} (hl : linkedL kd L) (hj : j ≤ L.length) (hr : ∀ i p, i < j → L[i]? = some p → readAt size s p.pg = some p) :
    ∀ k, k ≤ j → along size s kd (nthU (nosP L) 0) k = (L.take k, nthU (nosP L) k)
  | 0, _ => rfl
  | k + 1, hk => by
    have ih := chain_go hl hj hr k (by omega)
    obtain ⟨p, hp⟩ : ∃ p, L[k]? = some p := ⟨L[k], List.getElem?_eq_getElem (by omega)⟩
    obtain ⟨h1, h2, h3⟩ := hl.2 k p hp
    have hn := nosP_at hp
    have hg : goes size s kd (L.take k) (nthU (nosP L) k) = some p := by
      rw [hn, goes_is (hr k p (by omega) hp), wasIn_no (nodup_front hl.1 hp), decide_eq_false (by omega : ¬ p.pg < 2), decide_eq_true h1]
      rfl
    rw [along_next ih hg, take_snoc_at hp, h3]
theorem chain_whole {size : Int} {s : ByteArray} {kd : Int} {L : List Pg} (hl : linkedL kd L) (hr : ∀ p ∈ L, readAt size s p.pg = some p) :
    chainL size s kd (nthU (nosP L) 0) = L ∧ chainOk size s kd (nthU (nosP L) 0) = true := by
  have h1 := chain_go hl (Nat.le_refl _) (fun i p _ hp => hr p (List.mem_of_getElem? hp)) L.length (Nat.le_refl _)
  rw [List.take_length, nthU_out (l := nosP L) (i := L.length) (by rw [nosP_len]; exact Nat.le_refl _)] at h1
  have h2 := along_fresh (size := size) (s := s) (kd := kd) (head := nthU (nosP L) 0) L.length
  rw [h1] at h2
  have h3 := fresh_le h2
  have h4 := chain_end (Nat.le_trans h3 (Nat.div_le_self _ _)) h1 goes_zero
  exact ⟨h4.1, by rw [h4.2]; rfl⟩
theorem chain_broken {size : Int} {s : ByteArray} {kd : Int} {L : List Pg} {j : Nat} {p : Pg} (hl : linkedL kd L) (hp : L[j]? = some p) (hr : ∀ i q, i < j → L[i]? = some q → readAt size s q.pg = some q) (hn : readAt size s p.pg = none) :
    chainOk size s kd (nthU (nosP L) 0) = false := by
  have hj := (List.getElem?_eq_some_iff.1 hp).1
  have h1 := chain_go hl (Nat.le_of_lt hj) hr j (Nat.le_refl _)
  have h2 := along_fresh (size := size) (s := s) (kd := kd) (head := nthU (nosP L) 0) j
  rw [h1] at h2
  have h3 := fresh_le h2
  rw [List.length_take, Nat.min_eq_left (Nat.le_of_lt hj)] at h3
  rw [nosP_at hp] at h1
  have h4 := chain_end (Nat.le_trans h3 (Nat.div_le_self _ _)) h1 (goes_bad hn)
  have h5 := (hl.2 j p hp).2.1
  rw [h4.2, decide_eq_false (by omega)]
/-- A chain of nothing. -/
theorem chain_nil {size : Int} {s : ByteArray} {kd : Int} : chainL size s kd 0 = [] ∧ chainOk size s kd 0 = true := chain_end (Nat.zero_le _) rfl goes_zero

/-! Values. -/
theorem numB_iff {n : Nat} : numB n = true ↔ 2 ≤ n ∧ n ≤ 2147483647 := by unfold numB; simp
/-- The pages of a value. -/
def onPg (z tx : Nat) (ps : List Nat) (v : ByteArray) (i : Nat) : Pg := ⟨5, ((partsL z v).getD i ⟨#[]⟩).size, nthU ps i, nextL ps i, tx, overBody z ((partsL z v).getD i ⟨#[]⟩)⟩
theorem onL_some {z tx : Nat} {ps : List Nat} {v : ByteArray} {L : List Pg} (h : onL z tx ps v = some L) : goodSize z = true ∧ 0 < v.size ∧ v.size ≤ 4096 ∧ ceilD v.size (z - 24) = ps.length ∧ fineL ps = true ∧ tx ≤ 4611686018427387904 ∧ L = (List.range ps.length).map (onPg z tx ps v) := by
  unfold onL at h
  split at h
  · rename_i hc
    simp only [Bool.and_eq_true, decide_eq_true_eq] at hc
    obtain ⟨h1, h2, h3, h4, h5, h6⟩ := hc
    have hgp := good_pos h1
    refine ⟨h1, h2, h3, ?_, h5, h6, ?_⟩
    · rw [← h4]
      unfold partsL
      rw [if_pos h1, chunks_len, show ((z : Int) - 24).toNat = z - 24 by omega]
    · injection h with h
      rw [← h]
      rfl
  · cases h
theorem on_at {z tx : Nat} {ps : List Nat} {v : ByteArray} {L : List Pg} (h : L = (List.range ps.length).map (onPg z tx ps v)) {i : Nat} {p : Pg} (hp : L[i]? = some p) : i < ps.length ∧ p = onPg z tx ps v i := by
  subst h
  rw [List.getElem?_map, Option.map_eq_some_iff] at hp
  obtain ⟨a, ha, rfl⟩ := hp
  obtain ⟨h1, h2⟩ := List.getElem?_eq_some_iff.1 ha
  rw [List.getElem_range] at h2
  subst h2
  exact ⟨by simpa using h1, rfl⟩
theorem on_nos {z tx : Nat} {ps : List Nat} {v : ByteArray} {L : List Pg} (h : L = (List.range ps.length).map (onPg z tx ps v)) : nosP L = ps := by
  subst h
  unfold nosP
  rw [List.map_map]
  apply List.ext_getElem
  · simp
  · intro i h1 h2
    simp [onPg, nthU_get h2]
theorem fine_nodup {ps : List Nat} (h : fineL ps = true) : ps.Nodup := by unfold fineL at h; rw [Bool.and_eq_true, decide_eq_true_eq] at h; exact h.2
theorem fine_num {ps : List Nat} (h : fineL ps = true) {i : Nat} (hi : i < ps.length) : numB (nthU ps i) = true := (fineL_iff.1 h i hi).1
theorem on_linked {z tx : Nat} {ps : List Nat} {v : ByteArray} {L : List Pg} (h : onL z tx ps v = some L) : linkedL 5 L := by
  obtain ⟨h1, h2, h3, h4, h5, h6, hL⟩ := onL_some h
  refine ⟨by rw [on_nos hL]; exact fine_nodup h5, fun i p hp => ?_⟩
  obtain ⟨hi, rfl⟩ := on_at hL hp
  refine ⟨rfl, (numB_iff.1 (fine_num h5 hi)).1, ?_⟩
  rw [on_nos hL]
  exact nextL_is ps i
theorem on_part {z tx : Nat} {ps : List Nat} {v : ByteArray} {L : List Pg} (h : onL z tx ps v = some L) {i : Nat} (hi : i < ps.length) : (partsL z v).getD i ⟨#[]⟩ = piece (z - 24) v i ∧ mayP9 z (nthU ps i) (nextL ps i) tx (piece (z - 24) v i) = true := by
  obtain ⟨h1, h2, h3, h4, h5, h6, hL⟩ := onL_some h
  have hgp := good_pos h1
  have hr : 0 < z - 24 := by obtain ⟨z', hz, hz1, _⟩ := good_nat h1; omega
  have hi' : i < ceilD v.size (z - 24) := by rw [h4]; exact hi
  have hps := piece_size hr hi'
  have hpl := piece_lt hr hi'
  constructor
  · unfold partsL
    rw [if_pos h1, show ((z : Int) - 24).toNat = z - 24 by omega, List.getD, chunks_at hi']
    rfl
  · unfold mayP9
    rw [h1, decide_eq_true (show 1 ≤ (piece (z - 24) v i).size by omega), decide_eq_true (show ((piece (z - 24) v i).size : Int) ≤ (z : Int) - 24 by omega), fine_num h5 hi, decide_eq_true h6]
    unfold nextL
    by_cases hn : i + 1 < ps.length
    · rw [if_pos hn, fine_num h5 hn, decide_eq_true (show (z : Int) - 24 ≤ (piece (z - 24) v i).size by have := piece_full hr (v := v) (show i + 1 < ceilD v.size (z - 24) by omega); omega)]
      simp
    · rw [if_neg hn]
      rfl
theorem may_of_9 {z n next tx : Nat} {s : ByteArray} (h : mayP9 z n next tx s = true) : mayPg z 5 s.size n next tx (overBody z s) = true := by
  obtain ⟨h1, h2, h3, h4, h5, h6⟩ := mayP9_parts h
  have hz := overBody_size z s h3.1
  have hgp := good_pos h1
  have hn := numB_iff.1 h4
  have hx : next ≤ 2147483647 := by
    rcases h5 with h5 | ⟨h5, _⟩
    · omega
    · exact (numB_iff.1 h5).2
  unfold mayPg
  rw [h1, hz]
  simp
  omega
theorem may_of_10 {z n next tx : Nat} {l : List Nat} (h : mayP10 z n next tx l = true) : mayPg z 6 l.length n next tx (freeBody z l) = true := by
  obtain ⟨h1, h2, h3, h4, h5, h6, h7⟩ := mayP10_parts h
  have hz := freeBody_size z l h4
  have hgp := good_pos h1
  have hn := numB_iff.1 h5
  have hx : next ≤ 2147483647 := by
    rcases h6 with h6 | h6
    · omega
    · exact (numB_iff.1 h6).2
  unfold mayPg
  rw [h1, hz]
  simp
  omega
theorem on_may {z tx : Nat} {ps : List Nat} {v : ByteArray} {L : List Pg} (h : onL z tx ps v = some L) : ∀ p ∈ L, mayPg z p.kd p.ct p.pg p.lk p.tx p.bd = true := by
  intro p hp
  obtain ⟨i, hi, he⟩ := List.getElem_of_mem hp
  obtain ⟨_, _, _, _, _, _, hL⟩ := onL_some h
  obtain ⟨hi2, rfl⟩ := on_at hL (by rw [List.getElem?_eq_getElem hi, he])
  obtain ⟨h1, h2⟩ := on_part h hi2
  unfold onPg
  rw [h1]
  exact may_of_9 h2
theorem on_val {z tx : Nat} {ps : List Nat} {v : ByteArray} {L : List Pg} (h : onL z tx ps v = some L) : valV L = some v := by
  obtain ⟨h1, h2, h3, h4, h5, h6, hL⟩ := onL_some h
  have hr : 0 < z - 24 := by obtain ⟨z', hz, hz1, _⟩ := good_nat h1; omega
  have hlen : L.length = ps.length := by rw [hL]; simp
  have key : ∀ k, k ≤ L.length → valV (L.take k) = some (frontP (z - 24) v k) := by
    intro k
    induction k with
    | zero => intro _; rw [frontP_zero]; rfl
    | succ k ih =>
      intro hk
      obtain ⟨p, hp⟩ : ∃ p, L[k]? = some p := ⟨L[k], List.getElem?_eq_getElem (by omega)⟩
      obtain ⟨hi, hpe⟩ := on_at hL hp
      obtain ⟨g1, g2⟩ := on_part h hi
      have ho : p.over = some (piece (z - 24) v k) := by
        rw [hpe]
        unfold Pg.over onPg
        rw [g1]
        exact readO_page g2
      rw [take_snoc_at hp, valV_snoc, ih (by omega), ho, frontP_succ hr (by omega)]
  have := key L.length (Nat.le_refl _)
  rwa [List.take_length, hlen, ← h4, frontP_end hr] at this
/-- A value that is laid is read again, with its own length only. -/
theorem value_back {z tx : Nat} {ps : List Nat} {v s : ByteArray} {L : List Pg} (h : onL z tx ps v = some L) (hr : ∀ p ∈ L, readAt z s p.pg = some p) (len : Int) :
    readV z s (nthU ps 0) len = if (v.size : Int) = len then some (v, ps) else none := by
  obtain ⟨h1, h2, h3, h4, h5, h6, hL⟩ := onL_some h
  have hn := on_nos hL
  have hc := chain_whole (on_linked h) hr
  rw [hn] at hc
  unfold readV
  rw [hc.1, hc.2, on_val h]
  simp only [if_true]
  have hn' : L.map (fun x => x.pg) = ps := hn
  rw [hn']
  by_cases hl : (v.size : Int) = len
  · rw [if_pos hl, if_pos ⟨by omega, hl⟩]
  · rw [if_neg hl, if_neg (fun hh => hl hh.2)]
theorem value_broken {z tx : Nat} {ps : List Nat} {v s : ByteArray} {L : List Pg} {j : Nat} {p : Pg} (h : onL z tx ps v = some L) (hp : L[j]? = some p) (hr : ∀ i q, i < j → L[i]? = some q → readAt z s q.pg = some q) (hn : readAt z s p.pg = none) (len : Int) :
    readV z s (nthU ps 0) len = none := by
  obtain ⟨h1, h2, h3, h4, h5, h6, hL⟩ := onL_some h
  have hc := chain_broken (on_linked h) hp hr hn
  rw [on_nos hL] at hc
  unfold readV
  rw [hc]
  rfl

/-! Lists. -/
def liPg (z tx : Nat) (ps ns : List Nat) (i : Nat) : Pg := ⟨6, ((ns.drop (i * mostN z)).take (mostN z)).length, nthU ps i, nextL ps i, tx, freeBody z ((ns.drop (i * mostN z)).take (mostN z))⟩
theorem listsL_some {z tx : Nat} {ps ns : List Nat} {L : List Pg} (h : listsL z tx ps ns = some L) : goodSize z = true ∧ allU ns = true ∧ ascU ns = true ∧ needF z ns.length ≤ ps.length ∧ fineL ps = true ∧ tx ≤ 4611686018427387904 ∧ L = (List.range ps.length).map (liPg z tx ps ns) := by
  unfold listsL at h
  split at h
  · rename_i hc
    simp only [Bool.and_eq_true, decide_eq_true_eq] at hc
    obtain ⟨h1, ⟨h2, h3⟩, h4, h5, h6⟩ := hc
    refine ⟨h1, h2, h3, h4, h5, h6, ?_⟩
    injection h with h
    rw [← h]
    rfl
  · cases h
theorem li_at {z tx : Nat} {ps ns : List Nat} {L : List Pg} (h : L = (List.range ps.length).map (liPg z tx ps ns)) {i : Nat} {p : Pg} (hp : L[i]? = some p) : i < ps.length ∧ p = liPg z tx ps ns i := by
  subst h
  rw [List.getElem?_map, Option.map_eq_some_iff] at hp
  obtain ⟨a, ha, rfl⟩ := hp
  obtain ⟨h1, h2⟩ := List.getElem?_eq_some_iff.1 ha
  rw [List.getElem_range] at h2
  subst h2
  exact ⟨by simpa using h1, rfl⟩
theorem li_nos {z tx : Nat} {ps ns : List Nat} {L : List Pg} (h : L = (List.range ps.length).map (liPg z tx ps ns)) : nosP L = ps := by
  subst h
  unfold nosP
  rw [List.map_map]
  apply List.ext_getElem
  · simp
  · intro i h1 h2
    simp [liPg, nthU_get h2]
theorem li_linked {z tx : Nat} {ps ns : List Nat} {L : List Pg} (h : listsL z tx ps ns = some L) : linkedL 6 L := by
  obtain ⟨h1, h2, h3, h4, h5, h6, hL⟩ := listsL_some h
  refine ⟨by rw [li_nos hL]; exact fine_nodup h5, fun i p hp => ?_⟩
  obtain ⟨hi, rfl⟩ := li_at hL hp
  refine ⟨rfl, (numB_iff.1 (fine_num h5 hi)).1, ?_⟩
  rw [li_nos hL]
  exact nextL_is ps i
theorem li_part {z tx : Nat} {ps ns : List Nat} {L : List Pg} (h : listsL z tx ps ns = some L) {i : Nat} (hi : i < ps.length) : mayP10 z (nthU ps i) (nextL ps i) tx ((ns.drop (i * mostN z)).take (mostN z)) = true := by
  obtain ⟨h1, h2, h3, h4, h5, h6, hL⟩ := listsL_some h
  unfold mayP10
  rw [h1, allU_take (allU_drop h2 _) _, ascU_take (ascU_drop h3 _) _, decide_eq_true (show ((ns.drop (i * mostN z)).take (mostN z)).length ≤ mostN z by rw [List.length_take]; omega), fine_num h5 hi, decide_eq_true h6]
  unfold nextL
  by_cases hn : i + 1 < ps.length
  · rw [if_pos hn, fine_num h5 hn]
    simp
  · rw [if_neg hn]
    rfl
theorem li_may {z tx : Nat} {ps ns : List Nat} {L : List Pg} (h : listsL z tx ps ns = some L) : ∀ p ∈ L, mayPg z p.kd p.ct p.pg p.lk p.tx p.bd = true := by
  intro p hp
  obtain ⟨i, hi, he⟩ := List.getElem_of_mem hp
  obtain ⟨_, _, _, _, _, _, hL⟩ := listsL_some h
  obtain ⟨hi2, rfl⟩ := li_at hL (by rw [List.getElem?_eq_getElem hi, he])
  exact may_of_10 (li_part h hi2)
theorem li_num {z tx : Nat} {ps ns : List Nat} {L : List Pg} (h : listsL z tx ps ns = some L) : numV L = some ns := by
  obtain ⟨h1, h2, h3, h4, h5, h6, hL⟩ := listsL_some h
  have hm0 : 0 < mostN z := by
    have := mostN_good h1
    obtain ⟨z', hz, hz1, _⟩ := good_nat h1
    omega
  have hlen : L.length = ps.length := by rw [hL]; simp
  have key : ∀ k, k ≤ L.length → numV (L.take k) = some (ns.take (k * mostN z)) := by
    intro k
    induction k with
    | zero => intro _; rw [Nat.zero_mul, List.take_zero]; rfl
    | succ k ih =>
      intro hk
      obtain ⟨p, hp⟩ : ∃ p, L[k]? = some p := ⟨L[k], List.getElem?_eq_getElem (by omega)⟩
      obtain ⟨hi, hpe⟩ := li_at hL hp
      have ho : p.free = some ((ns.drop (k * mostN z)).take (mostN z)) := by
        rw [hpe]
        exact readU_page (li_part h hi)
      rw [take_snoc_at hp, numV_snoc, ih (by omega), ho, Nat.succ_mul, List.take_add]
  have hk := key L.length (Nat.le_refl _)
  rw [List.take_length, hlen, List.take_of_length_le] at hk
  · exact hk
  · unfold needF at h4
    rw [h1, Bool.true_and] at h4
    by_cases h0 : ns.length = 0
    · omega
    · rw [if_pos (by simp; omega), Int.toNat_natCast] at h4
      have h7 : (ns.length - 1) / mostN z < ps.length := by omega
      have h8 := (Nat.div_lt_iff_lt_mul hm0).1 h7
      omega
theorem list_back {z tx : Nat} {ps ns : List Nat} {s : ByteArray} {L : List Pg} (h : listsL z tx ps ns = some L) (hr : ∀ p ∈ L, readAt z s p.pg = some p) :
    listV z s (nthU ps 0) = some (ns, ps) := by
  obtain ⟨h1, h2, h3, h4, h5, h6, hL⟩ := listsL_some h
  have hn := li_nos hL
  have hc := chain_whole (li_linked h) hr
  rw [hn] at hc
  unfold listV
  rw [hc.1, hc.2, li_num h]
  simp only [if_true]
  have hn' : L.map (fun x => x.pg) = ps := hn
  rw [hn', if_pos h3]

/-! Images. -/
theorem layL_cons (size : Int) (img : ByteArray) (p : Pg) (L : List Pg) (h : mayPg size p.kd p.ct p.pg p.lk p.tx p.bd = true) : layL size img (p :: L) = layL size (writeB size.toNat p.pg p.block img) L := by
  unfold layL
  rw [List.foldl_cons]
  simp only [h, if_true]
theorem write_size {z c : Nat} {p : Pg} {img : ByteArray} (h : mayPg z p.kd p.ct p.pg p.lk p.tx p.bd = true) (hl : img.size = c * z) : (writeB z p.pg p.block img).size = max c (p.pg + 1) * z := by
  obtain ⟨hbs, _, _⟩ := block_right h
  rw [← size_list, writeB_list]
  exact bWrite_pages z p.pg c _ _ (by rw [size_list, hl]) (by rw [size_list, hbs])
/-- What is read of an image in which these pages are laid. -/
theorem lay_reads {z : Nat} : ∀ (L : List Pg) (c : Nat) (img : ByteArray), (∀ p ∈ L, mayPg z p.kd p.ct p.pg p.lk p.tx p.bd = true) → img.size = c * z →
    ∃ im C, layL z img L = some im ∧ im.size = C * z ∧ c ≤ C ∧ (∀ p ∈ L, p.pg < C) ∧ (∀ D, c ≤ D → (∀ p ∈ L, p.pg < D) → C ≤ D) ∧ (∀ n, (∀ p ∈ L, p.pg ≠ n) → readAt z im n = readAt z img n) ∧ ((nosP L).Nodup → ∀ p ∈ L, readAt z im p.pg = some p)
  | [], c, img, _, hl => ⟨img, c, rfl, hl, Nat.le_refl _, (by simp), (fun D h _ => h), (fun n _ => rfl), (by simp)⟩
  | p :: L, c, img, hm, hl => by
    have hp := hm p List.mem_cons_self
    obtain ⟨im, C, h1, h2, h3, h4, h5, h6, h7⟩ := lay_reads L (max c (p.pg + 1)) (writeB z p.pg p.block img) (fun q hq => hm q (List.mem_cons_of_mem _ hq)) (write_size hp hl)
    refine ⟨im, C, ?_, h2, by omega, ?_, ?_, ?_, ?_⟩
    · rw [layL_cons _ _ _ _ hp, Int.toNat_natCast, h1]
    · intro q hq
      rcases List.mem_cons.1 hq with rfl | hq
      · omega
      · exact h4 q hq
    · intro D hD hq
      exact h5 D (by have := hq p List.mem_cons_self; omega) (fun q hq' => hq q (List.mem_cons_of_mem _ hq'))
    · intro n hn
      rw [h6 n (fun q hq => hn q (List.mem_cons_of_mem _ hq)), readAt_write hp hl, if_neg (fun e => hn p List.mem_cons_self e.symm)]
    · intro hnd q hq
      rw [show nosP (p :: L) = p.pg :: nosP L from rfl, List.nodup_cons] at hnd
      rcases List.mem_cons.1 hq with rfl | hq
      · rw [h6 q.pg (fun r hr e => hnd.1 (by rw [← e]; exact List.mem_map_of_mem hr)), readAt_write hp hl, if_pos rfl]
      · exact h7 hnd.2 q hq
end Go.Proofs.Ytabhhccdbfjigaa
namespace Go.Proofs.Ytabhhccdbfjigaa
open Go.RowKit
open Go.Lib hiding intOf
set_option linter.unusedVariables false
set_option linter.unusedSimpArgs false
attribute [local go_sem ↓] Go.wp_at_zero Go.wp_at_succ

/-- So many numbers from one on, in 32 bits. -/
def runW (f n : Nat) : List Nat := (List.range n).map fun i => (f + i) % 4294967296
theorem runW_len (f n : Nat) : (runW f n).length = n := by simp [runW]
theorem runW_succ (f n : Nat) : runW f (n + 1) = runW f n ++ [(f + n) % 4294967296] := by unfold runW; rw [List.range_succ, List.map_append]; rfl
set_option maxRecDepth 100000 in
set_option maxHeartbeats 6400000 in
theorem rrun_any (f n : Nat) (w : World) (hf : f < 4294967296) (hn : n ≤ 1000000) :
    Calls Try.prog 52 #[.int .u32 f, .int .i64 n] w fun e w' => ∃ A c, e = .returned (.slice A n c) ∧ w'.ownsRow w.heap.size 29 1 (.slice A n c) n (ucells (runW f n)) ∧ Below w.heap.size w w' := by
  obtain ⟨i0, hi0, hz0, hz1, hz2⟩ := info_parts infoU32
  go_enter Try.func52, Try.ntmps52
  go_wp2_with fail
  go_loopw [5, 6] (fun b i wr => ∃ (k : Nat) (A' : Option Addr) (c' : Nat), k ≤ n ∧ i = .int .i64 k ∧ b = .slice A' k c' ∧ Hid (wr.ownsRow w.heap.size 29 1 (.slice A' k c') k (ucells (runW f k))) ∧ Hid (Below w.heap.size w wr)) (fun _ i _ => n - (intOf i).toNat)
  case atStart => exact ⟨0, none, 0, Nat.zero_le _, rfl, rfl, Lib.hid (World.ownsRow_nil _ _ _ _), Lib.hid (Below.refl _ _)⟩
  case round =>
    obtain ⟨k, A', c', hk, rfl, rfl, HO, HB⟩ := hrel
    by_cases hlt : k < n
    · have hk0 : (0 : Int) ≤ k := by omega
      have hk1 : (k : Int) < n := by omega
      have hw1 : IntKind.u32.wrap (k : Int) = (k : Int) := by rw [IntKind.wrap_u32]; omega
      obtain ⟨a, ha⟩ : ∃ a, a = (f + k) % 4294967296 := ⟨_, rfl⟩
      have ha1 : ((f : Int) + (k : Int)) % 4294967296 = (a : Int) := by omega
      have ha2 : IntKind.u32.wrap ((f : Int) + (k : Int)) = (a : Int) := by rw [IntKind.wrap_u32]; omega
      have HA := Lib.hid ha
      clear ha
      have HX := Lib.hid (HO.out.alloc (.cells #[.int .u32 a] 29))
      have HB3 := Lib.hid (HB.out.alloc HB.out.size (.cells #[.int .u32 a] 29))
      go_wp2_with (at_builtin; refine wpList_append_any _ rfl (.tmp 12) (.tmp 17) _ rfl w.heap.size 29 i0 _ 1 4 Try.underlying32 hi0 hz0 hz1 hz2 rfl (by omega) _ k _ rfl HX.out (wr.heap.size + 1) (some ⟨wr.heap.size, 0, none⟩) 1 1 (ucells [a]) rfl (reads_own (n := 1) (Blk.new _ _ _) rfl) (ucells_one _) (by unfold maxLen; omega) (by omega) (by have := HB.out.size; simp; omega) ?_; intro v5 w5 hown4 hg4 hat; clear hat; rw [← ucells_append, HA.out, ← runW_succ] at hown4; obtain ⟨A4, c4, rfl, _, _, _⟩ := own_form hown4; have HO4 := Lib.hid hown4; have HB4 := Lib.hid (HB3.out.grown hg4 HB3.out.size (fun j hj => (HX.out.lt j hj).1)); clear hown4 hg4)
      go_roundw
      case rel =>
        first
          | exact ⟨k + 1, A4, c4, by omega, by go_num, rfl, HO4, HB4⟩
          | ((repeat apply Exists.intro); exact ⟨⟨k + 1, A4, c4, by omega, by go_num, rfl, HO4, HB4⟩, rfl⟩)
      case measure => simp [intOf]; omega
    · obtain rfl : k = n := by omega
      clear hlt hk
      go_wp2_with fail
      go_ret
      first
        | exact ⟨A', c', rfl, HO.out, HB.out⟩
        | exact ⟨A', c', rfl, HO.out, HB.out⟩
end Go.Proofs.Ytabhhccdbfjigaa
