/-
  Set and Del over buckets in increasing order, as plain data; plain lemmas. No statement is proved here.
-/
import Derived.Test.YtgljmcameeeaiaaCatParse
import Derived.Test.YtgljmcameeeaiaaRef6Page
namespace Go.Proofs.Ytgljmcameeeaiaa
open Go.RowKit
open Go.Lib hiding intOf
set_option linter.unusedVariables false
set_option linter.unusedSimpArgs false

theorem less_total : ∀ (a b : List UInt8), Op.bytesLess a b = false → Op.bytesLess b a = false → a = b
  | [], [], _, _ => rfl
  | [], b :: y, h, _ => by simp [Op.bytesLess] at h
  | a :: x, [], _, h => by simp [Op.bytesLess] at h
  | a :: x, b :: y, h1, h2 => by
    simp only [Op.bytesLess, Bool.or_eq_false_iff, Bool.and_eq_false_iff, decide_eq_false_iff_not, beq_eq_false_iff_ne] at h1 h2
    have hab : a = b := by
      have e1 := h1.1
      have e2 := h2.1
      rw [UInt8.lt_iff_toNat_lt] at e1 e2
      exact UInt8.toNat_inj.1 (by omega)
    subst hab
    rw [less_total x y (by simpa using h1.2) (by simpa using h2.2)]
theorem less_asymm {a b : List UInt8} (h : Op.bytesLess a b = true) : Op.bytesLess b a = false := by
  rw [Bool.eq_false_iff]
  intro h2
  have := less_trans h h2
  rw [less_irrefl] at this
  cases this
theorem bytes_of_list {a b : ByteArray} (h : a.toList = b.toList) : a = b := by
  rw [ByteArray.toList_eq, ByteArray.toList_eq] at h
  exact bytes_ext h
/-- One bucket's name is below another's. -/
def lessB (a b : Bk) : Prop := Op.bytesLess a.nm.toList b.nm.toList = true
/-- Names ascend. -/
def Asc (l : List Bk) : Prop := l.Pairwise lessB
theorem ascB_Asc {l : List Bk} : ascB l ↔ Asc l := by
  rw [Asc, List.pairwise_iff_getElem]
  constructor
  · intro h i j hi hj hij
    exact h i j _ _ hij (List.getElem?_eq_getElem hi) (List.getElem?_eq_getElem hj)
  · intro h i j a b hij ha hb
    obtain ⟨hi, rfl⟩ := List.getElem?_eq_some_iff.1 ha
    obtain ⟨hj, rfl⟩ := List.getElem?_eq_some_iff.1 hb
    exact h i j hi hj hij
theorem asc_ext : ∀ {l m : List Bk}, Asc l → Asc m → (∀ x, x ∈ l ↔ x ∈ m) → l = m
  | [], [], _, _, _ => rfl
  | [], b :: m, _, _, h => absurd ((h b).2 List.mem_cons_self) (by simp)
  | a :: l, [], _, _, h => absurd ((h a).1 List.mem_cons_self) (by simp)
  | a :: l, b :: m, hl, hm, h => by
    have hl' := List.pairwise_cons.1 hl
    have hm' := List.pairwise_cons.1 hm
    have hab : a = b := by
      rcases List.mem_cons.1 ((h a).1 List.mem_cons_self) with rfl | h1
      · rfl
      rcases List.mem_cons.1 ((h b).2 List.mem_cons_self) with rfl | h2
      · rfl
      have e1 := hm'.1 a h1
      have e2 := hl'.1 b h2
      have e3 := less_asymm e1
      rw [lessB] at e2
      rw [e2] at e3
      cases e3
    subst hab
    rw [asc_ext hl'.2 hm'.2 fun x => ?_]
    constructor
    · intro hx
      rcases List.mem_cons.1 ((h x).1 (List.mem_cons_of_mem _ hx)) with rfl | h1
      · have := hl'.1 x hx
        rw [lessB, less_irrefl] at this
        cases this
      · exact h1
    · intro hx
      rcases List.mem_cons.1 ((h x).2 (List.mem_cons_of_mem _ hx)) with rfl | h1
      · have := hm'.1 x hx
        rw [lessB, less_irrefl] at this
        cases this
      · exact h1
theorem isI_cons (b : Bk) (l : List Bk) (nm : ByteArray) : isI (b :: l) nm = ((b.nm.toList == nm.toList) || isI l nm) := by
  unfold isI eqI
  rw [List.findIdx_cons]
  rcases h : (b.nm.toList == nm.toList) with _ | _
  · simp
  · simp
theorem fI_cons_lo {b : Bk} {l : List Bk} {nm : ByteArray} (h : Op.bytesLess b.nm.toList nm.toList = true) : fI (b :: l) nm = fI l nm + 1 := by
  have hne : (b.nm.toList == nm.toList) = false := by
    rw [beq_eq_false_iff_ne]
    intro e
    rw [e, less_irrefl] at h
    cases h
  unfold fI eqI geI
  rw [List.findIdx_cons, List.findIdx_cons, hne, h]
  simp only [cond_false, List.length_cons, Bool.not_true]
  split <;> split <;> omega
/-- Where a name belongs. -/
theorem split_at {l : List Bk} (hl : Asc l) (nm : ByteArray) : ∃ L M R, l = L ++ M ++ R ∧ (∀ x, x ∈ L → Op.bytesLess x.nm.toList nm.toList = true) ∧ (∀ x, x ∈ R → Op.bytesLess nm.toList x.nm.toList = true) ∧ fI l nm = L.length ∧ ((M = [] ∧ isI l nm = false) ∨ ∃ x, M = [x] ∧ x.nm = nm ∧ isI l nm = true) := by
  induction l with
  | nil => exact ⟨[], [], [], rfl, by simp, by simp, rfl, .inl ⟨rfl, rfl⟩⟩
  | cons b l ih =>
    have hl' := List.pairwise_cons.1 hl
    rcases h1 : Op.bytesLess b.nm.toList nm.toList with _ | _
    · rcases h2 : Op.bytesLess nm.toList b.nm.toList with _ | _
      · have he := less_total _ _ h1 h2
        have hb : b.nm = nm := bytes_of_list he
        refine ⟨[], [b], l, rfl, by simp, fun x hx => ?_, ?_, .inr ⟨b, rfl, hb, ?_⟩⟩
        · have := hl'.1 x hx
          rw [lessB, he] at this
          exact this
        · unfold fI eqI
          rw [List.findIdx_cons, hb]
          simp
        · rw [isI_cons, hb]; simp
      · have hall : ∀ x, x ∈ l → Op.bytesLess nm.toList x.nm.toList = true := fun x hx => less_trans h2 (hl'.1 x hx)
        have hne : ∀ x, x ∈ b :: l → (x.nm.toList == nm.toList) = false := fun x hx => by
          rw [beq_eq_false_iff_ne]
          intro e
          have : Op.bytesLess nm.toList x.nm.toList = true := by
            rcases List.mem_cons.1 hx with rfl | hx
            · exact h2
            · exact hall x hx
          rw [e, less_irrefl] at this
          cases this
        have hno : isI (b :: l) nm = false := by
          unfold isI eqI
          rw [findIdx_none fun j y hj hy => hne y (List.mem_of_getElem? hy)]
          simp
        refine ⟨[], [], b :: l, rfl, by simp, fun x hx => ?_, ?_, .inl ⟨rfl, hno⟩⟩
        · rcases List.mem_cons.1 hx with rfl | hx
          · exact h2
          · exact hall x hx
        · have hno' : ¬ eqI (b :: l) nm < (b :: l).length := by simpa [isI] using hno
          unfold fI
          rw [if_neg hno']
          unfold geI
          rw [List.findIdx_cons, h1]
          rfl
    · obtain ⟨L, M, R, e, hL, hR, hf, hM⟩ := ih hl'.2
      have hne : (b.nm.toList == nm.toList) = false := by
        rw [beq_eq_false_iff_ne]
        intro e
        rw [e, less_irrefl] at h1
        cases h1
      refine ⟨b :: L, M, R, by rw [e]; rfl, fun x hx => ?_, hR, by rw [fI_cons_lo h1, hf]; rfl, ?_⟩
      · rcases List.mem_cons.1 hx with rfl | hx
        · exact h1
        · exact hL x hx
      · rw [isI_cons, hne, Bool.false_or]
        exact hM
theorem sizeB_append (l m : List Bk) : sizeB (l ++ m) = sizeB l + sizeB m := by
  induction l with
  | nil => simp [sizeB]
  | cons b l ih => simp only [List.cons_append, sizeB, ih]; omega
theorem sumB_append (l m : List Bk) : sumB (l ++ m) = sumB l + sumB m := by
  induction l with
  | nil => simp [sumB]
  | cons b l ih => simp only [List.cons_append, sumB, ih]; omega
theorem less_ne {a b : ByteArray} (h : Op.bytesLess a.toList b.toList = true) : a ≠ b := by
  rintro rfl
  rw [less_irrefl] at h
  cases h
/-- What Set and Del make of buckets in increasing order. -/
theorem set_del {l : List Bk} (hl : Asc l) (nm : ByteArray) : ∃ L M R, l = L ++ M ++ R ∧ (∀ x, x ∈ L → Op.bytesLess x.nm.toList nm.toList = true) ∧ (∀ x, x ∈ R → Op.bytesLess nm.toList x.nm.toList = true) ∧ (∀ x, x ∈ M → x.nm = nm) ∧ (∀ b : Bk, b.nm = nm → setB l b = L ++ b :: R) ∧ delB l nm = L ++ R ∧ fI l nm = L.length := by
  obtain ⟨L, M, R, e, hL, hR, hf, hM⟩ := split_at hl nm
  have ht : l.take L.length = L := by rw [e, List.append_assoc, List.take_left']; rfl
  rcases hM with ⟨rfl, hi⟩ | ⟨x, rfl, hx, hi⟩
  · have e' : l = L ++ R := by simpa using e
    have hd : l.drop L.length = R := by rw [e', List.drop_left']; rfl
    refine ⟨L, [], R, e, hL, hR, by simp, fun b hb => ?_, ?_, hf⟩
    · rw [setB, hb, hi, hf, ht]; simp [hd]
    · rw [delB, hi]; simpa using e'
  · have hd : l.drop (L.length + 1) = R := by
      rw [e, List.append_assoc, ← List.drop_drop, List.drop_left' rfl]; rfl
    refine ⟨L, [x], R, e, hL, hR, by simpa using hx, fun b hb => ?_, ?_, hf⟩
    · rw [setB, hb, hi, hf, ht]; simp [hd]
    · rw [delB, hi, hf, ht]; simp [hd]
theorem mem_setB {l : List Bk} (hl : Asc l) (b x : Bk) : x ∈ setB l b ↔ x = b ∨ (x ∈ l ∧ x.nm ≠ b.nm) := by
  obtain ⟨L, M, R, e, hL, hR, hM, hs, _, _⟩ := set_del hl b.nm
  rw [hs b rfl]
  have nL : ∀ x, x ∈ L → x.nm ≠ b.nm := fun x hx => less_ne (hL x hx)
  have nR : ∀ x, x ∈ R → x.nm ≠ b.nm := fun x hx => (less_ne (hR x hx)).symm
  rw [e]
  simp only [List.mem_append, List.mem_cons]
  constructor
  · rintro (h | rfl | h)
    · exact .inr ⟨.inl (.inl h), nL x h⟩
    · exact .inl rfl
    · exact .inr ⟨.inr h, nR x h⟩
  · rintro (rfl | ⟨(h | h) | h, hn⟩)
    · exact .inr (.inl rfl)
    · exact .inl h
    · exact absurd (hM x h) hn
    · exact .inr (.inr h)
theorem mem_delB {l : List Bk} (hl : Asc l) (nm : ByteArray) (x : Bk) : x ∈ delB l nm ↔ x ∈ l ∧ x.nm ≠ nm := by
  obtain ⟨L, M, R, e, hL, hR, hM, _, hd, _⟩ := set_del hl nm
  rw [hd, e]
  simp only [List.mem_append]
  constructor
  · rintro (h | h)
    · exact ⟨.inl (.inl h), less_ne (hL x h)⟩
    · exact ⟨.inr h, (less_ne (hR x h)).symm⟩
  · rintro ⟨(h | h) | h, hn⟩
    · exact .inl h
    · exact absurd (hM x h) hn
    · exact .inr h
theorem asc_setB {l : List Bk} (hl : Asc l) (b : Bk) : Asc (setB l b) := by
  obtain ⟨L, M, R, e, hL, hR, _, hs, _, _⟩ := set_del hl b.nm
  rw [hs b rfl]
  rw [e, Asc, List.pairwise_append, List.pairwise_append] at hl
  rw [Asc, List.pairwise_append, List.pairwise_cons]
  refine ⟨hl.1.1, ⟨fun x hx => hR x hx, hl.2.1⟩, fun x hx y hy => ?_⟩
  rcases List.mem_cons.1 hy with rfl | hy
  · exact hL x hx
  · exact hl.2.2 x (List.mem_append.2 (.inl hx)) y hy
theorem asc_delB {l : List Bk} (hl : Asc l) (nm : ByteArray) : Asc (delB l nm) := by
  obtain ⟨L, M, R, e, hL, hR, _, _, hd, _⟩ := set_del hl nm
  rw [hd]
  rw [e, Asc, List.pairwise_append, List.pairwise_append] at hl
  rw [Asc, List.pairwise_append]
  exact ⟨hl.1.1, hl.2.1, fun x hx y hy => hl.2.2 x (List.mem_append.2 (.inl hx)) y hy⟩
/-- A bucket that is set is found. -/
theorem find_setB {l : List Bk} (hl : Asc l) (b : Bk) : isI (setB l b) b.nm = true ∧ fI (setB l b) b.nm < (setB l b).length ∧ (setB l b)[fI (setB l b) b.nm]? = some b := by
  have ha := asc_setB hl b
  obtain ⟨L, M, R, e, hL, hR, hf, hM⟩ := split_at ha b.nm
  have hmem : b ∈ setB l b := (mem_setB hl b b).2 (.inl rfl)
  rcases hM with ⟨rfl, hi⟩ | ⟨x, rfl, hx, hi⟩
  · rw [e] at hmem
    simp only [List.append_nil, List.mem_append] at hmem
    rcases hmem with h | h
    · exact absurd rfl (less_ne (hL b h))
    · exact absurd rfl (less_ne (hR b h))
  · have hxb : x = b := by
      have : x ∈ setB l b := by rw [e]; simp
      rcases (mem_setB hl b x).1 this with h | ⟨_, h⟩
      · exact h
      · exact absurd hx h
    subst hxb
    refine ⟨hi, fI_lt hi, ?_⟩
    rw [hf]
    have : (setB l x)[L.length]? = (L ++ [x] ++ R)[L.length]? := by rw [← e]
    rw [this]
    simp
theorem size_set_del {l : List Bk} (hl : Asc l) (b : Bk) : sizeB (setB l b) = sizeB (delB (setB l b) b.nm) + 9 + b.nm.size := by
  have ha := asc_setB hl b
  obtain ⟨L, M, R, e, hL, hR, hM, hs, _, _⟩ := set_del hl b.nm
  have hd : delB (setB l b) b.nm = L ++ R := by
    refine asc_ext (asc_delB ha _) ?_ fun x => ?_
    · have hl2 := hl
      rw [e, Asc, List.pairwise_append, List.pairwise_append] at hl2
      rw [Asc, List.pairwise_append]
      exact ⟨hl2.1.1, hl2.2.1, fun x hx y hy => hl2.2.2 x (List.mem_append.2 (.inl hx)) y hy⟩
    · rw [mem_delB ha, hs b rfl]
      simp only [List.mem_append, List.mem_cons]
      constructor
      · rintro ⟨h | rfl | h, hn⟩
        · exact .inl h
        · exact absurd rfl hn
        · exact .inr h
      · rintro (h | h)
        · exact ⟨.inl h, less_ne (hL x h)⟩
        · exact ⟨.inr (.inr h), (less_ne (hR x h)).symm⟩
  rw [hd, hs b rfl, sizeB_append, sizeB_append]
  simp only [sizeB]
  omega
theorem set_set {l : List Bk} (hl : Asc l) (a b : Bk) (h : a.nm = b.nm) : setB (setB l a) b = setB l b := by
  refine asc_ext (asc_setB (asc_setB hl a) b) (asc_setB hl b) fun x => ?_
  rw [mem_setB (asc_setB hl a), mem_setB hl, mem_setB hl, h]
  constructor
  · rintro (h1 | ⟨h1 | h1, h2⟩)
    · exact .inl h1
    · exact absurd (by rw [h1, h]) h2
    · exact .inr h1
  · rintro (h1 | h1)
    · exact .inl h1
    · exact .inr ⟨.inr h1, h1.2⟩
theorem set_comm {l : List Bk} (hl : Asc l) (a b : Bk) (h : a.nm ≠ b.nm) : setB (setB l a) b = setB (setB l b) a := by
  refine asc_ext (asc_setB (asc_setB hl a) b) (asc_setB (asc_setB hl b) a) fun x => ?_
  rw [mem_setB (asc_setB hl a), mem_setB hl, mem_setB (asc_setB hl b), mem_setB hl]
  constructor
  · rintro (rfl | ⟨rfl | ⟨h1, h2⟩, h3⟩)
    · exact .inr ⟨.inl rfl, fun e => h e.symm⟩
    · exact .inl rfl
    · exact .inr ⟨.inr ⟨h1, h3⟩, h2⟩
  · rintro (rfl | ⟨rfl | ⟨h1, h2⟩, h3⟩)
    · exact .inr ⟨.inl rfl, h⟩
    · exact .inl rfl
    · exact .inr ⟨.inr ⟨h1, h3⟩, h2⟩
theorem del_set {l : List Bk} (hl : Asc l) (b : Bk) : delB (setB l b) b.nm = delB l b.nm := by
  refine asc_ext (asc_delB (asc_setB hl b) _) (asc_delB hl _) fun x => ?_
  rw [mem_delB (asc_setB hl b), mem_setB hl, mem_delB hl]
  constructor
  · rintro ⟨rfl | h1, h2⟩
    · exact absurd rfl h2
    · exact h1
  · exact fun h1 => ⟨.inr h1, h1.2⟩
theorem del_del {l : List Bk} (hl : Asc l) (nm : ByteArray) : delB (delB l nm) nm = delB l nm := by
  refine asc_ext (asc_delB (asc_delB hl nm) _) (asc_delB hl _) fun x => ?_
  rw [mem_delB (asc_delB hl nm), mem_delB hl]
  exact ⟨fun h => h.1, fun h => ⟨h, h.2⟩⟩
theorem allOk_iff (l : List Bk) : allOk l = true ↔ (∀ x, x ∈ l → okBk x = true) ∧ Asc l := by
  constructor
  · intro h
    refine ⟨fun x hx => ?_, ascB_Asc.1 (allOk_asc h)⟩
    obtain ⟨j, hj, rfl⟩ := List.mem_iff_getElem.1 hx
    exact allOk_ok h (List.getElem?_eq_getElem hj)
  · rintro ⟨h1, h2⟩
    refine allOk_yes fun j hj => ?_
    rw [okAt_of (List.getElem?_eq_getElem hj), h1 _ (List.getElem_mem _), Bool.true_and]
    rcases Nat.eq_zero_or_pos j with rfl | hp
    · rfl
    · have hlt : j - 1 < l.length := by omega
      rw [List.getElem?_eq_getElem hlt]
      have := (List.pairwise_iff_getElem.1 h2) (j - 1) j hlt hj (by omega)
      simp only [lessB] at this
      simp [this]
theorem lost_sum {M : List Bk} (h : ∀ x, x ∈ M → x.nm = lostN) : sumB M = 0 := by
  induction M with
  | nil => rfl
  | cons b M ih =>
    simp only [sumB, h b List.mem_cons_self]
    rw [ih fun x hx => h x (List.mem_cons_of_mem _ hx)]
    simp
theorem sum_del {l : List Bk} (hl : Asc l) : sumB (delB l lostN) = sumB l := by
  obtain ⟨L, M, R, e, _, _, hM, _, hd, _⟩ := set_del hl lostN
  rw [hd, e, sumB_append, sumB_append, sumB_append, lost_sum hM]
  omega
theorem sum_set {l : List Bk} (hl : Asc l) (b : Bk) (hb : b.nm = lostN) : sumB (setB l b) = sumB l := by
  obtain ⟨L, M, R, e, _, _, hM, hs, _, _⟩ := set_del hl lostN
  rw [hs b hb, e, sumB_append, sumB_append, sumB_append, lost_sum hM]
  simp only [sumB, hb]
  simp
/-- lost+found fits into every valid catalog. -/
theorem may_lost {size : Int} {l : List Bk} (h : mayL size l = true) (b : Bk) (hb : b.nm = lostN) (hok : okBk b = true) : mayL size (setB (delB l lostN) b) = true := by
  simp only [mayL, Bool.and_eq_true, decide_eq_true_eq] at h ⊢
  obtain ⟨h1, h2, h3⟩ := h
  obtain ⟨ho, ha⟩ := (allOk_iff l).1 h1
  have hd := asc_delB ha lostN
  refine ⟨(allOk_iff _).2 ⟨fun x hx => ?_, asc_setB hd b⟩, h2, by rw [sum_set hd b hb, sum_del ha]; exact h3⟩
  rcases (mem_setB hd b x).1 hx with rfl | ⟨hx, _⟩
  · exact hok
  · exact ho x ((mem_delB ha lostN x).1 hx).1
theorem catBody_size (z : Nat) (l : List Bk) (h : sizeB l ≤ z - 24) : (catBody z l).size = z - 24 := by
  rw [← size_list, catBody]
  simp only [List.toList_toArray, List.length_append, List.length_replicate, bytesB_len]
  omega
/-- The page of buckets is read as them. -/
theorem readC_page {z n tx : Nat} {l : List Bk} (h : mayC z n tx l = true) : readC 2 l.length n 0 tx (catBody z l) = some l := by
  obtain ⟨h1, h2, h3, h4, h5, h6⟩ := mayC_parts h
  have hz := good_pos h2
  have hs := catBody_size z l h6
  have hp : parseB ((l.length : Int).toNat) (catBody z l).data.toList = some (l, List.replicate (z - 24 - sizeB l) 0) := by
    rw [Int.toNat_natCast]
    have : (catBody z l).data.toList = bytesB l ++ List.replicate (z - 24 - sizeB l) 0 := by simp [catBody]
    rw [this]
    exact parseB_all l _ fun b hb => okBk_fits (((allOk_iff l).1 h1).1 b hb)
  have e : (catBody z l).size + 24 = z := by omega
  rw [readC, hp, e]
  have hm : (mayL ((z : Nat) : Int) l && (numB n && decide (tx ≤ 4611686018427387904))) = true := h
  simp only [hm, Bool.true_and]
  simp
/-- What is read is written in the same way. -/
theorem readC_some {kd ct : Int} {pg lk ty : Nat} {bd : ByteArray} {l : List Bk} (h : readC kd ct pg lk ty bd = some l) : mayC ((bd.size + 24 : Nat) : Int) pg ty l = true ∧ kd = 2 ∧ ct = l.length ∧ lk = 0 ∧ bd = catBody (bd.size + 24) l := by
  rw [readC] at h
  split at h
  · cases h
  · split at h
    · rename_i hc
      injection h with h
      subst h
      rw [Bool.and_eq_true, decide_eq_true_eq] at hc
      exact ⟨hc.1, hc.2⟩
    · cases h
theorem setB_len (l : List Bk) (b : Bk) : (setB l b).length ≤ l.length + 1 := by
  have h := fI_le l b.nm
  rw [setB]
  split <;> simp only [List.length_append, List.length_cons, List.length_take, List.length_drop] <;> omega
theorem delB_len (l : List Bk) (nm : ByteArray) : (delB l nm).length ≤ l.length := by
  rw [delB]
  split
  · simp only [List.length_append, List.length_take, List.length_drop]; omega
  · exact Nat.le_refl _
end Go.Proofs.Ytgljmcameeeaiaa
