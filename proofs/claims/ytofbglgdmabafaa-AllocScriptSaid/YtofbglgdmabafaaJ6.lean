/-
  An allocation as plain data: rising lists of numbers, where a number stands, one more, one less; what Take and Give do. Plain lemmas; no statement is proved here.
-/
import Derived.Test.YtofbglgdmabafaaJ5
namespace Go.Proofs.Ytofbglgdmabafaa
set_option linter.unusedVariables false
set_option linter.unusedSimpArgs false

/-- Rising lists. -/
def RiseU (l : List Nat) : Prop := l.Pairwise (· < ·)
def placeU : List Nat → Nat → Nat
  | [], _ => 0
  | x :: r, n => if x < n then placeU r n + 1 else 0
def inU (l : List Nat) (n : Nat) : Bool := l.contains n
def withU (l : List Nat) (n : Nat) : List Nat := l.take (placeU l n) ++ n :: l.drop (placeU l n)
def lessU1 (l : List Nat) (n : Nat) : List Nat := l.take (placeU l n) ++ l.drop (placeU l n + 1)

theorem inU_iff {l : List Nat} {n : Nat} : inU l n = true ↔ n ∈ l := by unfold inU; exact List.contains_iff_mem
theorem inU_no {l : List Nat} {n : Nat} : inU l n = false ↔ n ∉ l := by rw [← inU_iff]; simp
theorem placeU_le : ∀ (l : List Nat) (n : Nat), placeU l n ≤ l.length
  | [], _ => Nat.le_refl _
  | x :: r, n => by
    unfold placeU
    have := placeU_le r n
    split
    · simp; omega
    · exact Nat.zero_le _
theorem placeU_lt : ∀ (l : List Nat) (n k : Nat), k < placeU l n → nthU l k < n
  | [], _, _, h => absurd h (Nat.not_lt_zero _)
  | x :: r, n, k, h => by
    unfold placeU at h
    split at h
    · rcases k with _ | k
      · simpa [nthU]
      · have := placeU_lt r n k (by omega)
        simpa [nthU] using this
    · omega
theorem placeU_ge : ∀ (l : List Nat) (n : Nat), placeU l n < l.length → n ≤ nthU l (placeU l n)
  | [], _, h => absurd h (Nat.not_lt_zero _)
  | x :: r, n, h => by
    by_cases hx : x < n
    · have e : placeU (x :: r) n = placeU r n + 1 := by simp [placeU, hx]
      rw [e] at h ⊢
      have := placeU_ge r n (by simpa using h)
      simpa [nthU] using this
    · have e : placeU (x :: r) n = 0 := by simp [placeU, hx]
      rw [e]
      simp [nthU]
      omega
theorem rise_nth {l : List Nat} (h : RiseU l) {i j : Nat} (hij : i < j) (hj : j < l.length) : nthU l i < nthU l j := by
  have := (List.pairwise_iff_getElem.1 h) i j (by omega) hj hij
  unfold nthU
  rw [List.getElem?_eq_getElem hj, List.getElem?_eq_getElem (by omega)]
  exact this
theorem rise_of {l : List Nat} (h : ∀ i, i + 1 < l.length → nthU l i < nthU l (i + 1)) : RiseU l := by
  have step : ∀ d i, i + d + 1 < l.length → nthU l i < nthU l (i + d + 1) := by
    intro d
    induction d with
    | zero => intro i hi; exact h i hi
    | succ d ih => intro i hi; exact Nat.lt_trans (ih i (by omega)) (h (i + d + 1) hi)
  refine List.pairwise_iff_getElem.2 fun i j hi hj hij => ?_
  have := step (j - i - 1) i (by omega)
  rw [show i + (j - i - 1) + 1 = j by omega] at this
  unfold nthU at this
  rw [List.getElem?_eq_getElem hj, List.getElem?_eq_getElem hi] at this
  exact this
theorem rise_asc {l : List Nat} : ascU l = true ↔ RiseU l := by
  rw [ascU_iff]
  exact ⟨rise_of, fun h i hi => rise_nth h (by omega) hi⟩
theorem mem_nth {l : List Nat} {k : Nat} (h : k < l.length) : nthU l k ∈ l := by
  unfold nthU
  rw [List.getElem?_eq_getElem h]
  exact List.getElem_mem h
theorem nth_mem {l : List Nat} {n : Nat} (h : n ∈ l) : ∃ k, k < l.length ∧ nthU l k = n := by
  obtain ⟨k, hk, rfl⟩ := List.getElem_of_mem h
  exact ⟨k, hk, by unfold nthU; rw [List.getElem?_eq_getElem hk]; rfl⟩
/-- The number is there just if it stands in its place. -/
theorem place_in {l : List Nat} (h : RiseU l) (n : Nat) : inU l n = (decide (placeU l n < l.length) && decide (nthU l (placeU l n) = n)) := by
  rw [Bool.eq_iff_iff, Bool.and_eq_true, decide_eq_true_iff, decide_eq_true_iff, inU_iff]
  constructor
  · intro hm
    obtain ⟨k, hk, rfl⟩ := nth_mem hm
    have hle : placeU l (nthU l k) ≤ k := by
      rcases Nat.lt_or_ge k (placeU l (nthU l k)) with h1 | h1
      · exact absurd (placeU_lt l _ k h1) (Nat.lt_irrefl _)
      · exact h1
    have hp : placeU l (nthU l k) < l.length := by omega
    refine ⟨hp, ?_⟩
    have h2 := placeU_ge l (nthU l k) hp
    rcases Nat.eq_or_lt_of_le hle with h3 | h3
    · rw [h3]
    · have := rise_nth h h3 hk
      omega
  · rintro ⟨h1, h2⟩
    rw [← h2]
    exact mem_nth h1
theorem rise_nodup {l : List Nat} (h : RiseU l) : l.Nodup := h.imp fun h => Nat.ne_of_lt h
/-- Rising lists with the same numbers are one. -/
theorem rise_ext : ∀ {l m : List Nat}, RiseU l → RiseU m → (∀ n, n ∈ l ↔ n ∈ m) → l = m
  | [], [], _, _, _ => rfl
  | [], y :: m, _, _, h => absurd ((h y).2 (by simp)) (by simp)
  | x :: l, [], _, _, h => absurd ((h x).1 (by simp)) (by simp)
  | x :: l, y :: m, hl, hm, h => by
    obtain ⟨hx, hl'⟩ := List.pairwise_cons.1 hl
    obtain ⟨hy, hm'⟩ := List.pairwise_cons.1 hm
    have e : x = y := by
      rcases List.mem_cons.1 ((h x).1 (by simp)) with h1 | h1
      · exact h1
      · rcases List.mem_cons.1 ((h y).2 (by simp)) with h2 | h2
        · exact h2.symm
        · have := hx y h2
          have := hy x h1
          omega
    subst e
    have : l = m := rise_ext hl' hm' fun n => by
      constructor
      · intro hn
        rcases List.mem_cons.1 ((h n).1 (by simp [hn])) with h1 | h1
        · have := hx n hn; omega
        · exact h1
      · intro hn
        rcases List.mem_cons.1 ((h n).2 (by simp [hn])) with h1 | h1
        · have := hy n hn; omega
        · exact h1
    rw [this]
theorem withU_mem {l : List Nat} {n m : Nat} : m ∈ withU l n ↔ m = n ∨ m ∈ l := by
  unfold withU
  have h : m ∈ l ↔ m ∈ l.take (placeU l n) ∨ m ∈ l.drop (placeU l n) := by rw [← List.mem_append, List.take_append_drop]
  rw [List.mem_append, List.mem_cons, h]
  constructor
  · rintro (h1 | h1 | h1)
    · exact .inr (.inl h1)
    · exact .inl h1
    · exact .inr (.inr h1)
  · rintro (h1 | h1 | h1)
    · exact .inr (.inl h1)
    · exact .inl h1
    · exact .inr (.inr h1)
theorem withU_len (l : List Nat) (n : Nat) : (withU l n).length = l.length + 1 := by
  unfold withU
  have := placeU_le l n
  simp
  omega
theorem take_lt {l : List Nat} {n m : Nat} (h : m ∈ l.take (placeU l n)) : m < n := by
  obtain ⟨k, hk, rfl⟩ := nth_mem h
  rw [List.length_take] at hk
  rw [show nthU (l.take (placeU l n)) k = nthU l k by unfold nthU; rw [List.getElem?_take_of_lt (by omega)]]
  exact placeU_lt l n k (by omega)
theorem drop_ge {l : List Nat} (hl : RiseU l) {n m : Nat} (h : m ∈ l.drop (placeU l n)) : n ≤ m := by
  obtain ⟨k, hk, rfl⟩ := nth_mem h
  rw [List.length_drop] at hk
  rw [show nthU (l.drop (placeU l n)) k = nthU l (placeU l n + k) by unfold nthU; rw [List.getElem?_drop]]
  have h1 := placeU_ge l n (by omega)
  rcases k with _ | k
  · exact h1
  · have := rise_nth hl (i := placeU l n) (j := placeU l n + (k + 1)) (by omega) (by omega)
    omega
theorem withU_rise {l : List Nat} {n : Nat} (h : RiseU l) (hn : n ∉ l) : RiseU (withU l n) := by
  unfold withU RiseU
  refine List.pairwise_append.2 ⟨h.sublist (List.take_sublist _ _), List.pairwise_cons.2 ⟨fun m hm => ?_, h.sublist (List.drop_sublist _ _)⟩, fun a ha b hb => ?_⟩
  · have h1 := drop_ge h hm
    have h2 : m ≠ n := fun e => hn (e ▸ List.mem_of_mem_drop hm)
    omega
  · have h1 := take_lt ha
    rcases List.mem_cons.1 hb with rfl | hb
    · exact h1
    · have := drop_ge h hb
      omega
theorem lessU1_rise {l : List Nat} {n : Nat} (h : RiseU l) : RiseU (lessU1 l n) := by
  unfold lessU1 RiseU
  refine List.pairwise_append.2 ⟨h.sublist (List.take_sublist _ _), h.sublist (List.drop_sublist _ _), fun a ha b hb => ?_⟩
  have h1 := take_lt ha
  have hb' : b ∈ l.drop (placeU l n) := by
    rw [show l.drop (placeU l n + 1) = (l.drop (placeU l n)).drop 1 by rw [List.drop_drop]] at hb
    exact List.mem_of_mem_drop hb
  have := drop_ge h hb'
  omega
theorem lessU1_mem {l : List Nat} {n m : Nat} (h : RiseU l) (hn : n ∈ l) : m ∈ lessU1 l n ↔ m ∈ l ∧ m ≠ n := by
  have hp := place_in h n
  rw [inU_iff.2 hn] at hp
  obtain ⟨h1, h2⟩ := Bool.and_eq_true_iff.1 hp.symm
  rw [decide_eq_true_iff] at h1 h2
  have e : l = l.take (placeU l n) ++ n :: l.drop (placeU l n + 1) := by
    have := List.drop_eq_getElem_cons h1
    have h3 : l[placeU l n] = n := by
      unfold nthU at h2
      rw [List.getElem?_eq_getElem h1] at h2
      exact h2
    rw [h3] at this
    rw [← this, List.take_append_drop]
  have hd := rise_nodup h
  rw [e] at hd
  have hmem : m ∈ l ↔ m ∈ l.take (placeU l n) ∨ m = n ∨ m ∈ l.drop (placeU l n + 1) := by
    conv => lhs; rw [e]
    rw [List.mem_append, List.mem_cons]
  rw [hmem]
  unfold lessU1
  rw [List.mem_append]
  rw [List.nodup_append] at hd
  obtain ⟨_, hd2, hd3⟩ := hd
  rw [List.nodup_cons] at hd2
  constructor
  · rintro (h4 | h4)
    · exact ⟨.inl h4, fun e => hd3 m h4 n (by simp) e⟩
    · exact ⟨.inr (.inr h4), fun e => hd2.1 (e ▸ h4)⟩
  · rintro ⟨h4 | h4 | h4, h5⟩
    · exact .inl h4
    · exact absurd h4 h5
    · exact .inr h4
theorem lessU1_len {l : List Nat} {n : Nat} (h : RiseU l) (hn : n ∈ l) : (lessU1 l n).length + 1 = l.length := by
  have hp := place_in h n
  rw [inU_iff.2 hn] at hp
  obtain ⟨h1, _⟩ := Bool.and_eq_true_iff.1 hp.symm
  rw [decide_eq_true_iff] at h1
  unfold lessU1
  simp
  omega
theorem lessU1_head (n : Nat) (l : List Nat) : lessU1 (n :: l) n = l := by simp [lessU1, placeU]
/-- An allocation: the pages that are free at once, taken, given back (all rising), how many there are, and may be. -/
structure AlS where
  now : List Nat
  took : List Nat
  gave : List Nat
  count : Nat
  most : Nat

structure AlS.ok (S : AlS) : Prop where
  r1 : RiseU S.now
  r2 : RiseU S.took
  r3 : RiseU S.gave
  i1 : ∀ n ∈ S.now, 2 ≤ n ∧ n < S.count
  i2 : ∀ n ∈ S.took, 2 ≤ n ∧ n < S.count
  i3 : ∀ n ∈ S.gave, 2 ≤ n ∧ n < S.count
  d12 : ∀ n ∈ S.now, n ∉ S.took
  d13 : ∀ n ∈ S.now, n ∉ S.gave
  d23 : ∀ n ∈ S.took, n ∉ S.gave
  c2 : 2 ≤ S.count
  cm : S.count ≤ S.most
  mm : S.most ≤ 1048576

/-- What Take answers, and leaves. -/
def AlS.takes (S : AlS) : Nat × Nat × AlS :=
  match S.now with
  | n :: r => (n, 0, { S with now := r, took := withU S.took n })
  | [] => if S.most ≤ S.count then (0, 9, S) else (S.count, 0, { S with took := withU S.took S.count, count := S.count + 1 })
def AlS.gives (S : AlS) (n : Nat) : Nat × AlS :=
  if n < 2 ∨ S.count ≤ n then (2, S)
  else if inU S.now n = true ∨ inU S.gave n = true then (8, S)
  else if inU S.took n = true then (0, { S with took := lessU1 S.took n, now := withU S.now n })
  else (0, { S with gave := withU S.gave n })
def AlS.left (S : AlS) : Nat := S.now.length + (S.most - S.count)
def AlS.frees (S : AlS) : List Nat := S.gave.foldl withU S.now
/-- A first state. -/
def alNew (l : List Nat) (pages most : Nat) : AlS := ⟨l, [], [], pages, most⟩
/-- May there be such an allocation? -/
def mayAl (l : List Nat) (pages most : Nat) : Bool := decide (2 ≤ pages) && (decide (pages ≤ most) && (decide (most ≤ 1048576) && (ascU l && l.all fun n => decide (2 ≤ n) && decide (n < pages))))

theorem mayAl_parts {l : List Nat} {pages most : Nat} (h : mayAl l pages most = true) : 2 ≤ pages ∧ pages ≤ most ∧ most ≤ 1048576 ∧ RiseU l ∧ ∀ n ∈ l, 2 ≤ n ∧ n < pages := by
  unfold mayAl at h
  simp only [Bool.and_eq_true, decide_eq_true_eq, List.all_eq_true] at h
  exact ⟨h.1, h.2.1, h.2.2.1, rise_asc.1 h.2.2.2.1, h.2.2.2.2⟩
theorem alNew_ok {l : List Nat} {pages most : Nat} (h : mayAl l pages most = true) : (alNew l pages most).ok := by
  obtain ⟨h1, h2, h3, h4, h5⟩ := mayAl_parts h
  exact ⟨h4, List.Pairwise.nil, List.Pairwise.nil, h5, by simp [alNew], by simp [alNew], by simp [alNew], by simp [alNew], by simp [alNew], h1, h2, h3⟩
theorem AlS.takes_ok {S : AlS} (h : S.ok) : S.takes.2.2.ok := by
  unfold AlS.takes
  split
  · rename_i n r hn
    have hr := h.r1
    rw [hn] at hr
    obtain ⟨hr1, hr2⟩ := List.pairwise_cons.1 hr
    have hnin : n ∈ S.now := by rw [hn]; simp
    have hsub : ∀ m ∈ r, m ∈ S.now := fun m hm => by rw [hn]; simp [hm]
    have hnr : n ∉ r := fun hm => by have := hr1 n hm; omega
    exact ⟨hr2, withU_rise h.r2 (h.d12 n hnin), h.r3, fun m hm => h.i1 m (hsub m hm), fun m hm => by
      rcases withU_mem.1 hm with rfl | hm
      · exact h.i1 m hnin
      · exact h.i2 m hm, h.i3, fun m hm hm2 => by
      rcases withU_mem.1 hm2 with rfl | hm2
      · exact hnr hm
      · exact h.d12 m (hsub m hm) hm2, fun m hm => h.d13 m (hsub m hm), fun m hm => by
      rcases withU_mem.1 hm with rfl | hm
      · exact h.d13 m hnin
      · exact h.d23 m hm, h.c2, h.cm, h.mm⟩
  · rename_i hn
    split
    · exact h
    · rename_i hc
      have hno : ∀ {l : List Nat}, (∀ n ∈ l, 2 ≤ n ∧ n < S.count) → S.count ∉ l := fun hl hm => by have := hl _ hm; omega
      refine ⟨h.r1, withU_rise h.r2 (hno h.i2), h.r3, fun m hm => ?_, fun m hm => ?_, fun m hm => ?_, fun m hm hm2 => ?_, h.d13, fun m hm => ?_, ?_, ?_, h.mm⟩
      · have := h.i1 m hm; show 2 ≤ m ∧ m < S.count + 1; omega
      · show 2 ≤ m ∧ m < S.count + 1
        have := h.c2
        rcases withU_mem.1 hm with rfl | hm
        · omega
        · have := h.i2 m hm; omega
      · have := h.i3 m hm; show 2 ≤ m ∧ m < S.count + 1; omega
      · rcases withU_mem.1 hm2 with rfl | hm2
        · exact hno h.i1 hm
        · exact h.d12 m hm hm2
      · rcases withU_mem.1 hm with rfl | hm
        · exact hno h.i3
        · exact h.d23 m hm
      · have := h.c2; show 2 ≤ S.count + 1; omega
      · show S.count + 1 ≤ S.most; omega
theorem AlS.gives_ok {S : AlS} (h : S.ok) (n : Nat) : (S.gives n).2.ok := by
  unfold AlS.gives
  split
  · exact h
  rename_i hr
  split
  · exact h
  rename_i hf
  have hf1 : n ∉ S.now := fun hm => hf (.inl (inU_iff.2 hm))
  have hf2 : n ∉ S.gave := fun hm => hf (.inr (inU_iff.2 hm))
  split
  · rename_i ht
    have ht := inU_iff.1 ht
    refine ⟨withU_rise h.r1 hf1, lessU1_rise h.r2, h.r3, fun m hm => ?_, fun m hm => h.i2 m ((lessU1_mem h.r2 ht).1 hm).1, h.i3, fun m hm hm2 => ?_, fun m hm => ?_, fun m hm => h.d23 m ((lessU1_mem h.r2 ht).1 hm).1, h.c2, h.cm, h.mm⟩
    · rcases withU_mem.1 hm with rfl | hm
      · exact h.i2 m ht
      · exact h.i1 m hm
    · have h2 := (lessU1_mem h.r2 ht).1 hm2
      rcases withU_mem.1 hm with rfl | hm
      · exact h2.2 rfl
      · exact h.d12 m hm h2.1
    · rcases withU_mem.1 hm with rfl | hm
      · exact h.d23 m ht
      · exact h.d13 m hm
  · rename_i ht
    have ht : n ∉ S.took := fun hm => ht (inU_iff.2 hm)
    refine ⟨h.r1, h.r2, withU_rise h.r3 hf2, h.i1, h.i2, fun m hm => ?_, h.d12, fun m hm hm2 => ?_, fun m hm hm2 => ?_, h.c2, h.cm, h.mm⟩
    · show 2 ≤ m ∧ m < S.count
      rcases withU_mem.1 hm with rfl | hm
      · omega
      · exact h.i3 m hm
    · rcases withU_mem.1 hm2 with rfl | hm2
      · exact hf1 hm
      · exact h.d13 m hm hm2
    · rcases withU_mem.1 hm2 with rfl | hm2
      · exact ht hm
      · exact h.d23 m hm hm2
theorem fold_with : ∀ (g l : List Nat), RiseU l → RiseU g → (∀ n ∈ l, n ∉ g) → RiseU (g.foldl withU l) ∧ (∀ m, m ∈ g.foldl withU l ↔ m ∈ l ∨ m ∈ g) ∧ (g.foldl withU l).length = l.length + g.length
  | [], l, h, _, _ => ⟨h, fun m => by simp, by simp⟩
  | x :: g, l, h, hg, hd => by
    obtain ⟨h1, h2⟩ := List.pairwise_cons.1 hg
    have hx : x ∉ l := fun hm => hd x hm (by simp)
    obtain ⟨a, b, c⟩ := fold_with g (withU l x) (withU_rise h hx) h2 fun n hn hng => by
      rcases withU_mem.1 hn with rfl | hn
      · have := h1 n hng; omega
      · exact hd n hn (by simp [hng])
    refine ⟨a, fun m => ?_, ?_⟩
    · rw [List.foldl_cons, b m, withU_mem, List.mem_cons]
      constructor
      · rintro ((h | h) | h) <;> simp [h]
      · rintro (h | h | h) <;> simp [h]
    · rw [List.foldl_cons, c, withU_len, List.length_cons]
      omega
theorem AlS.frees_rise {S : AlS} (h : S.ok) : RiseU S.frees := (fold_with S.gave S.now h.r1 h.r3 h.d13).1
theorem AlS.frees_mem {S : AlS} (h : S.ok) (m : Nat) : m ∈ S.frees ↔ m ∈ S.now ∨ m ∈ S.gave := (fold_with S.gave S.now h.r1 h.r3 h.d13).2.1 m
theorem AlS.frees_len {S : AlS} (h : S.ok) : S.frees.length = S.now.length + S.gave.length := (fold_with S.gave S.now h.r1 h.r3 h.d13).2.2
/-- A rising list below a number is no longer than that number. -/
theorem rise_len : ∀ {l : List Nat} {b : Nat}, RiseU l → (∀ n ∈ l, n < b) → l.length ≤ b := by
  intro l b h hb
  have : ∀ i, i < l.length → i ≤ nthU l i := by
    intro i
    induction i with
    | zero => intro _; exact Nat.zero_le _
    | succ i ih =>
      intro hi
      have := ih (by omega)
      have := rise_nth h (i := i) (j := i + 1) (by omega) hi
      omega
  rcases Nat.eq_zero_or_pos l.length with h0 | h0
  · omega
  · have h1 := this (l.length - 1) (by omega)
    have h2 := hb _ (mem_nth (k := l.length - 1) (by omega))
    omega
theorem nodup_len : ∀ {l m : List Nat}, l.Nodup → (∀ n, n ∈ l → n ∈ m) → l.length ≤ m.length
  | [], _, _, _ => Nat.zero_le _
  | x :: l, m, h, hs => by
    obtain ⟨h1, h2⟩ := List.nodup_cons.1 h
    have hx : x ∈ m := hs x (by simp)
    have := nodup_len (l := l) (m := m.erase x) h2 fun n hn => (List.mem_erase_of_ne (by rintro rfl; exact h1 hn)).2 (hs n (by simp [hn]))
    rw [List.length_erase_of_mem hx] at this
    have := List.length_pos_of_mem hx
    simp
    omega
/-- A sorted permutation of a rising list's numbers is that list. -/
theorem sorted_is {l l' m : List Nat} (hp : l'.Perm l) (hs : l'.Pairwise (· ≤ ·)) (hn : l.Nodup) (hm : RiseU m) (he : ∀ n, n ∈ l ↔ n ∈ m) : l' = m := by
  have hn' : l'.Nodup := hp.nodup_iff.2 hn
  have hr : RiseU l' := by
    have : l'.Pairwise (fun a b => a ≤ b ∧ a ≠ b) := List.Pairwise.and hs hn'
    exact this.imp fun ⟨a, b⟩ => by omega
  exact rise_ext hr hm fun n => (hp.mem_iff).trans (he n)
end Go.Proofs.Ytofbglgdmabafaa

