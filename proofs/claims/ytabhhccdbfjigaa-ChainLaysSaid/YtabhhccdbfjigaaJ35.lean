/-
  Texts that the main proof rests on, put together: ChJoin, ChAccU, FnSmall, FnSort. No statement is proved here.
-/
import Derived.Test.YtabhhccdbfjigaaJ31
import Derived.Test.YtabhhccdbfjigaaJ21
import Derived.Test.YtabhhccdbfjigaaJ7
import Derived.Test.YtabhhccdbfjigaaJ26
import Derived.Deep.CutRange
import Derived.Test.YtabhhccdbfjigaaJ34
import Derived.Test.YtabhhccdbfjigaaJ19
import Derived.Test.YtabhhccdbfjigaaJ5
import Derived.Test.YtabhhccdbfjigaaJ11
import Derived.Deep.DrawnRows
import Derived.Lib.Hide
namespace Go.Proofs.Ytabhhccdbfjigaa
open Go.RowKit
open Go.Lib hiding intOf
set_option linter.unusedVariables false
set_option linter.unusedSimpArgs false

/-- A slice of lists, as values, reads as these lists. -/
def LsRead (w : World) (cs : List Value) (ls : List (List Nat)) : Prop := cs.length = ls.length ∧ ∀ (i : Nat) v l, cs[i]? = some v → ls[i]? = some l → ∃ A n c, v = .slice A n c ∧ Reads w w.heap.size 1 A n (ucells l)
theorem flat_takeJ {ls : List (List Nat)} {k : Nat} {l : List Nat} (h : ls[k]? = some l) : (ls.take (k + 1)).flatten = (ls.take k).flatten ++ l := by
  rw [take_snoc_at h, List.flatten_append]
  simp
theorem flat_leJ {ls : List (List Nat)} {k : Nat} : (ls.take k).flatten.length ≤ ls.flatten.length := by
  conv => rhs; rw [← List.take_append_drop k ls, List.flatten_append, List.length_append]
  omega
set_option maxRecDepth 100000 in
set_option maxHeartbeats 6400000 in
theorem hjoined_any (A : Option Addr) (n c : Nat) (cs : List Value) (ls : List (List Nat)) (w : World) (hr : Reads w w.heap.size 1 A n cs) (hl : LsRead w cs ls) (hn : n ≤ 2000000) (hf : ls.flatten.length ≤ 1000000) :
    Calls Try.prog 43 #[.slice A n c] w fun e w' => ∃ A' n' c', e = .returned (.slice A' n' c') ∧ w'.ownsRow w.heap.size 29 1 (.slice A' n' c') n' (ucells ls.flatten) ∧ Below w.heap.size w w' := by
  obtain ⟨i0, hi, hz0, hz1, hz2⟩ := info_parts infoU32
  have hcn : cs.length = n := by have := hr.1; omega
  have hln : ls.length = n := by rw [← hl.1]; exact hcn
  have HL := Lib.hid hl.2
  have HR := Lib.hid hr
  have HF := Lib.hid hf
  clear hl hr hf
  go_enter Try.func43, Try.ntmps43
  go_wp2_with fail
  go_loopw [3, 8] (fun a i wr => ∃ (k m : Nat) (A' : Option Addr) (c' : Nat), k ≤ n ∧ i = .int .i64 k ∧ a = .slice A' m c' ∧ Hid (wr.ownsRow w.heap.size 29 1 (.slice A' m c') m (ucells (ls.take k).flatten)) ∧ Hid (Below w.heap.size w wr)) (fun _ i _ => n - (intOf i).toNat)
  case atStart => exact ⟨0, 0, none, 0, Nat.zero_le _, rfl, rfl, Lib.hid (World.ownsRow_nil _ _ _ _), Lib.hid (Below.refl _ _)⟩
  case round =>
    obtain ⟨k, m, A', c', hk, rfl, rfl, HO, HB⟩ := hrel
    by_cases hlt : k < n
    · obtain ⟨ad, v, rfl, hab, hv, hc⟩ := (HR.out.below HB.out).at_ hlt
      obtain ⟨l, hll⟩ : ∃ l, ls[k]? = some l := ⟨_, List.getElem?_eq_getElem (by omega)⟩
      obtain ⟨A1, n1, c1, rfl, hr1⟩ := HL.out k _ l hv hll
      have hr2 := hr1.below HB.out
      have hj0 : (0 : Int) ≤ k := by omega
      have hj1 : (k : Int) < n := by omega
      have hm := HO.out.1
      have hn1 := hr1.1
      have hfl := flat_leJ (ls := ls) (k := k + 1)
      rw [flat_takeJ hll, List.length_append] at hfl
      simp only [ucells, List.length_map] at hm hn1
      have hf9 := HF.out
      have HFt := Lib.hid (flat_takeJ hll)
      have HX := Lib.hid HO.out
      have hsz := HB.out.size
      clear hab hv hll hr1
      go_wp2_with (at_builtin; refine wpList_append_any _ rfl (.tmp 12) (.tmp 13) _ rfl w.heap.size 29 i0 _ 1 4 Try.underlying32 hi hz0 hz1 hz2 rfl (by omega) _ m _ rfl HO.out w.heap.size A1 n1 c1 (ucells l) rfl hr2 (fun u hu => by obtain ⟨x, _, rfl⟩ := List.mem_map.1 hu; rfl) (by unfold maxLen; omega) (by omega) (by omega) ?_; intro v5 w5 hown5 hg5 hat; obtain ⟨A5, c5, rfl, _, _, _⟩ := own_form hown5)
      refine ⟨⟨k + 1, m + n1, A5, c5, by omega, by go_num, rfl, Lib.hid ?_, Lib.hid (HB.out.grown hg5 HB.out.size (own_base HX.out))⟩, by simp [intOf]; omega⟩
      rw [HFt.out, ucells_append]
      exact hown5
    · obtain rfl : k = n := by omega
      have ht : ls.take k = ls := List.take_of_length_le (by omega)
      have HO2 := Lib.hid (show wr.ownsRow w.heap.size 29 1 (.slice A' m c') m (ucells ls.flatten) by have := HO.out; rw [ht] at this; exact this)
      clear HO ht
      go_wp2_with fail
      go_ret
      exact ⟨A', m, c', rfl, HO2.out, HB.out⟩
end Go.Proofs.Ytabhhccdbfjigaa
namespace Go.Proofs.Ytabhhccdbfjigaa
open Go.RowKit Go.Shelf
set_option linter.unusedVariables false
set_option linter.unusedSimpArgs false

def stepU2 (a : Option (List (List Nat))) (x : Lk) : Option (List (List Nat)) := match a, (if x.e = 0 then x.p.free else none) with | some ls, some l => some (ls ++ [l]) | _, _ => none
def accU (l : List Lk) : Option (List (List Nat)) := l.foldl stepU2 (some [])
theorem accU_snoc (l : List Lk) (x : Lk) : accU (l ++ [x]) = stepU2 (accU l) x := by unfold accU; rw [List.foldl_append]; rfl
theorem accU_none {l : List Lk} (h : accU l = none) : ∀ (m : List Lk), accU (l ++ m) = none := by
  intro m
  induction m generalizing l with
  | nil => simpa using h
  | cons x t ih =>
    rw [show l ++ x :: t = (l ++ [x]) ++ t by simp]
    exact ih (by rw [accU_snoc, h]; rfl)
theorem accU_fold (L : List Pg) : ∀ a : Option (List (List Nat)), ((L.map fun p => (⟨p, 0⟩ : Lk)).foldl stepU2 a).map List.flatten = L.foldl (fun a p => match a, p.free with | some v, some s => some (v ++ s) | _, _ => none) (a.map List.flatten) := by
  induction L with
  | nil => intro a; rfl
  | cons p t ih =>
    intro a
    rw [List.map_cons, List.foldl_cons, ih, List.foldl_cons]
    congr 1
    unfold stepU2
    rw [if_pos rfl]
    rcases a with _ | ls
    · rfl
    · rcases hp : p.free with _ | l
      · rfl
      · simp
theorem accU_map (L : List Pg) : (accU (L.map fun p => (⟨p, 0⟩ : Lk))).map List.flatten = numV L := accU_fold L (some [])
theorem accU_follow {size : Int} {s : ByteArray} {kd : Int} {head : Nat} : (accU (followL size s kd head)).map List.flatten = if chainOk size s kd head then numV (chainL size s kd head) else none := by
  unfold followL
  rcases chainOk size s kd head with _ | _
  · simp only [Bool.false_eq_true, if_false]
    rw [accU_snoc]
    unfold stepU2
    split
    · rename_i a b c d
      simp at d
    · rfl
  · simp only [if_true]
    rw [List.append_nil, accU_map]
theorem listV_bad_pre {size : Int} {s : ByteArray} {head : Nat} {l : List Lk} (hp : l <+: followL size s 6 head) (hb : accU l = none) : listV size s head = none := by
  obtain ⟨m, hm⟩ := hp
  have h := accU_none hb m
  rw [hm] at h
  have h2 := accU_follow (size := size) (s := s) (kd := 6) (head := head)
  rw [h] at h2
  unfold listV
  rcases ho : chainOk size s 6 head with _ | _
  · rfl
  · rw [ho, if_pos rfl] at h2
    rw [if_pos rfl, ← h2]
    rfl
theorem listV_end {size : Int} {s : ByteArray} {head : Nat} {ls : List (List Nat)} (ha : accU (followL size s 6 head) = some ls) : listV size s head = if ascU ls.flatten then some (ls.flatten, (followL size s 6 head).map (·.p.pg)) else none := by
  have h2 := accU_follow (size := size) (s := s) (kd := 6) (head := head)
  rw [ha] at h2
  rcases ho : chainOk size s 6 head with _ | _
  · rw [ho] at h2; cases h2
  · rw [ho, if_pos rfl] at h2
    unfold listV
    rw [ho, if_pos rfl, ← h2]
    dsimp only [Option.map_some]
    have : (followL size s 6 head).map (·.p.pg) = (chainL size s 6 head).map (·.pg) := by unfold followL; rw [ho]; simp
    rw [this]
theorem zero_free : Pg.zero.free = none := by unfold Pg.free readU Pg.zero; simp [parseU]
theorem free_lenF {size : Int} {x : Lk} {l : List Nat} (hm : mayPg size x.p.kd x.p.ct x.p.pg x.p.lk x.p.tx x.p.bd = true) (h : x.p.free = some l) : l.length ≤ mostN size := by
  have h1 : (x.p.bd.size : Int) = size - 24 := by simp only [mayPg, Bool.and_eq_true, decide_eq_true_eq] at hm; omega
  unfold Pg.free readU at h
  split at h
  · cases h
  · rename_i l' r hp
    split at h
    · rename_i hc
      injection h with h
      subst h
      rw [Bool.and_eq_true] at hc
      have h4 := (mayP10_parts hc.1).2.2.2.1
      rw [← mostN_good (mayP10_parts hc.1).1] at h4
      rw [show ((x.p.bd.size + 24 : Nat) : Int) = size by omega] at h4
      exact h4
    · cases h
theorem follow_le2 {size : Int} {s : ByteArray} {kd : Int} {head : Nat} (hg : goodSize size = true) (hs : s.size ≤ 1000000) : mostN size * (followL size s kd head).length ≤ 300000 := by
  have h := fresh_le (along_fresh (size := size) (s := s) (kd := kd) (head := head) s.size)
  have h1 : (followL size s kd head).length ≤ s.size / size.toNat + 1 := by
    unfold followL chainL
    rw [List.length_append, List.length_map]
    split <;> simp <;> omega
  obtain ⟨z, rfl, hz1, hz2, _⟩ := good_nat hg
  have hm : mostN z = (z - 24) / 4 := by rw [mostN, hg, if_pos rfl]; congr 1; omega
  have hz : (z : Int).toNat = z := by omega
  rw [hz] at h1
  rw [hm]
  obtain ⟨q, hq⟩ : ∃ q, q = s.size / z := ⟨_, rfl⟩
  rw [← hq] at h1
  have h2 : z * q ≤ s.size := by rw [hq]; exact Nat.mul_div_le _ _
  have h3 : (z - 24) / 4 * (followL z s kd head).length ≤ (z - 24) / 4 * (q + 1) := Nat.mul_le_mul_left _ h1
  have h4 : (z - 24) / 4 * 4 ≤ z := by omega
  have h5 : (z - 24) / 4 * q * 4 ≤ z * q := by
    rw [Nat.mul_right_comm]
    exact Nat.mul_le_mul_right _ h4
  rw [Nat.mul_add] at h3
  omega

/-! Lists of the call's own. -/
/-- These values are slices of the call's own that hold these lists; none is in block g. -/
def LsAt (W : World) (g : Option Nat) (cs : List Value) (ls : List (List Nat)) : Prop := cs.length = ls.length ∧ ∀ (i : Nat) v l, cs[i]? = some v → ls[i]? = some l → ∃ A n c, v = .slice A n c ∧ W.ownsRow 0 29 1 (.slice A n c) n (ucells l) ∧ (v.ownBlock ≠ none → v.ownBlock ≠ g)
theorem LsAt.nil (W : World) (g : Option Nat) : LsAt W g [] [] := ⟨rfl, fun i v l h => by cases h⟩
theorem LsAt.grown {W W' : World} {g row : Option Nat} {cs : List Value} {ls : List (List Nat)} (h : LsAt W g cs ls) (hg : W.grownBy W' row) (hr : ∀ r, row = some r → ∀ c fz, W.heap[r]? ≠ some (.cells c 29 fz)) : LsAt W' g cs ls := by
  refine ⟨h.1, fun i v l h1 h2 => ?_⟩
  obtain ⟨A, n, c, rfl, h3, h4⟩ := h.2 i v l h1 h2
  refine ⟨A, n, c, rfl, h3.kept hg ?_, h4⟩
  rcases h3.2 with ⟨h0, _⟩ | ⟨g', cap, cur, hv, _, hgg, _⟩
  · rw [h0]; exact .inl rfl
  · rw [hv]
    exact .inr fun e => hr g' e.symm _ _ hgg
theorem LsAt.own {W W' : World} {g row : Option Nat} {cs : List Value} {ls : List (List Nat)} (h : LsAt W g cs ls) (hg : W.grownBy W' row) (hr : ∀ r, row = some r → ∃ o : Obj, W.heap[r]? = some o ∧ o.isCells = false) : LsAt W' g cs ls :=
  h.grown hg fun r e c fz => by
    obtain ⟨o, h1, h2⟩ := hr r e
    rw [h1]
    intro e'
    cases e'
    cases h2
theorem LsAt.below {W W' : World} {g : Option Nat} {cs : List Value} {ls : List (List Nat)} (h : LsAt W g cs ls) (hb : Below W.heap.size W W') : LsAt W' g cs ls := h.grown (grown_of_below hb) (by simp)
theorem LsAt.snoc {W : World} {g : Option Nat} {cs : List Value} {ls : List (List Nat)} {A : Option Addr} {n c : Nat} {l : List Nat} (h : LsAt W g cs ls) (hr : W.ownsRow 0 29 1 (.slice A n c) n (ucells l)) (hg : (Value.slice A n c).ownBlock ≠ none → (Value.slice A n c).ownBlock ≠ g) : LsAt W g (cs ++ [.slice A n c]) (ls ++ [l]) := by
  refine ⟨by simp [h.1], fun i v l' h1 h2 => ?_⟩
  by_cases hi : i < cs.length
  · rw [List.getElem?_append_left hi] at h1
    rw [List.getElem?_append_left (by rw [← h.1]; exact hi)] at h2
    exact h.2 i v l' h1 h2
  · rw [List.getElem?_append_right (by omega)] at h1
    rw [List.getElem?_append_right (by rw [← h.1]; omega)] at h2
    have e1 : i - cs.length = 0 := by
      rcases Nat.eq_zero_or_pos (i - cs.length) with h0 | h0
      · exact h0
      · rw [List.getElem?_eq_none (by simp; omega)] at h1; cases h1
    rw [e1] at h1
    rw [show i - ls.length = 0 by rw [← h.1]; exact e1] at h2
    injection h1 with h1
    injection h2 with h2
    subst h1
    subst h2
    exact ⟨A, n, c, rfl, hr, hg⟩
/-- Another row of numbers grows, which none of them is in. -/
theorem LsAt.app {W w1 : World} {V V' : Value} {tmp : Obj} {cs : List Value} {ls : List (List Nat)} (h : LsAt W V.ownBlock cs ls) (hg : (W.alloc tmp).grownBy w1 V.ownBlock) (hat : V'.ownBlock = V.ownBlock ∨ V'.ownBlock = some (W.alloc tmp).heap.size) : LsAt w1 V'.ownBlock cs ls := by
  refine ⟨h.1, fun i v l h1 h2 => ?_⟩
  obtain ⟨A, n, c, rfl, h3, h4⟩ := h.2 i v l h1 h2
  refine ⟨A, n, c, rfl, (h3.alloc tmp).kept hg ?_, fun hne => ?_⟩
  · rcases hb : (Value.slice A n c).ownBlock with _ | b
    · exact .inl rfl
    · exact .inr fun e => h4 (by rw [hb]; simp) (by rw [hb]; exact e)
  · rcases hat with e | e
    · rw [e]; exact h4 hne
    · rw [e]
      intro e2
      have := (h3.lt _ e2).2
      rw [World.size_alloc] at this
      omega
theorem LsAt.read {W : World} {g : Option Nat} {cs : List Value} {ls : List (List Nat)} (h : LsAt W g cs ls) : LsRead W cs ls := ⟨h.1, fun i v l h1 h2 => by
  obtain ⟨A, n, c, rfl, h3, _⟩ := h.2 i v l h1 h2
  exact ⟨A, n, c, rfl, Reads.of_own h3⟩⟩
/-- A variable's slice grows by an append: the box lies below all rows. -/
theorem appended2 {W w1 : World} {H n₀ B : Nat} {t e : TypeId} {size : Nat} {v v' : Value} {k m : Nat} {xs ys : List Value} {tmp : Obj} (hv : Boxed W B t v) (hB : B < n₀) (hH : H ≤ B) (hrow : W.ownsRow n₀ e size v k xs) (hn₀ : n₀ ≤ W.heap.size)
    (hown' : w1.ownsRow n₀ e size v' m ys) (hgrow : (W.alloc tmp).grownBy w1 v.ownBlock) :
    Boxed w1 B t v ∧ Boxed (w1.setCell ⟨B, 0, none⟩ v') B t v' ∧ (w1.setCell ⟨B, 0, none⟩ v').ownsRow n₀ e size v' m ys ∧ KeepsOthers W (w1.setCell ⟨B, 0, none⟩ v') ∧ Below H W (w1.setCell ⟨B, 0, none⟩ v') := by
  have hv1 : Boxed w1 B t v := (hv.alloc tmp).kept hgrow (own_ne hrow hB)
  refine ⟨hv1, hv1.set v', hown'.kept (grownBy_setCell' w1 B v') (.inr fun e => own_ne hown' hB e.symm), ?_, ?_⟩
  · refine ((KeepsOthers.alloc W tmp).trans (KeepsOthers.of_grownBy hgrow fun j o ej hj => ?_)).trans (KeepsOthers.setCell _ _ _)
    rcases (hrow.alloc tmp).2 with ⟨rfl, _⟩ | ⟨g, cap, cur, rfl, _, hgb, _⟩
    · simp [Value.ownBlock] at ej
    · obtain rfl : g = j := by simpa [Value.ownBlock] using ej
      rw [hgb] at hj; cases hj; rfl
  · refine (((Below.refl H W).alloc (by omega) tmp).grown hgrow (by simp; omega) fun j ej => ?_).setCell (p := ⟨B, 0, none⟩) hH v'
    have := own_base hrow j ej
    omega
end Go.Proofs.Ytabhhccdbfjigaa
namespace Go.Proofs.Ytabhhccdbfjigaa
open Go.RowKit
open Go.Lib hiding intOf
set_option linter.unusedVariables false
set_option linter.unusedSimpArgs false
attribute [local go_sem ↓] Go.wp_at_zero Go.wp_at_succ

set_option maxRecDepth 100000 in
set_option maxHeartbeats 3200000 in
theorem fnum_any (n : Nat) (w : World) : Calls Try.prog 74 #[.int .u32 n] w fun e w' => e = .returned (.bool (numB n)) ∧ w' = w := by
  by_cases h1 : 2 ≤ n
  · have h1' : (2 : Int) ≤ n := by omega
    by_cases h2 : n ≤ 2147483647
    · have h2' : (n : Int) ≤ 2147483647 := by omega
      have HE := Lib.hid (show numB n = true by simp [numB, h1, h2])
      go_enter Try.func74, Try.ntmps74
      go_wp2
      go_ret
      exact ⟨by rw [HE.out]; rfl, rfl⟩
    · have h2' : ¬ (n : Int) ≤ 2147483647 := by omega
      have HE := Lib.hid (show numB n = false by simp [numB, h1, h2])
      go_enter Try.func74, Try.ntmps74
      go_wp2
      go_ret
      exact ⟨by rw [HE.out]; rfl, rfl⟩
  · have h1' : ¬ (2 : Int) ≤ n := by omega
    have HE := Lib.hid (show numB n = false by simp [numB, h1])
    go_enter Try.func74, Try.ntmps74
    go_wp2
    go_ret
    exact ⟨by rw [HE.out]; rfl, rfl⟩
set_option maxRecDepth 100000 in
set_option maxHeartbeats 3200000 in
theorem fmost_same (size : Int) (w : World) : Calls Try.prog 40 #[.int .i64 size] w fun e w' => e = .returned (.int .i64 (mostN size)) ∧ w' = w := by
  rcases hg : goodSize size with _ | _
  · have HM := fun w => room_no size w hg
    have HE := Lib.hid (show ((mostN size : Nat) : Int) = 0 by rw [mostN, hg]; rfl)
    clear hg
    go_enter Try.func40, Try.ntmps40
    go_wp2_with (go_at_call 61; refine (HM _).mono ?_; rintro e w' ⟨rfl, rfl⟩)
    go_ret
    exact ⟨by rw [HE.out]; rfl, rfl⟩
  · have HM := fun w => room_yes size w hg
    obtain ⟨z, rfl, hz1, hz2, _⟩ := good_nat hg
    obtain ⟨r, hr⟩ : ∃ r, r = z - 24 := ⟨_, rfl⟩
    have hri : (z : Int) - 24 = (r : Int) := by omega
    obtain ⟨q, hq⟩ : ∃ q, q = r / 4 := ⟨_, rfl⟩
    have hdiv : (r : Int) / 4 = (q : Int) := by omega
    have HW := Lib.hid (wrap64_nat q (by omega))
    have HE := Lib.hid (show mostN z = q by rw [mostN, hg, if_pos rfl, show ((z : Int) - 24).toNat = r by omega, hq])
    simp only [hri] at HM
    clear hg hq hr hz1 hz2 hri
    go_enter Try.func40, Try.ntmps40
    go_wp2_with (go_at_call 61; refine (HM _).mono ?_; rintro e w' ⟨rfl, rfl⟩)
    go_ret
    refine ⟨?_, rfl⟩
    rw [HE.out]
    show Ending.returned (.int .i64 (wrap64 (q : Int))) = _
    rw [HW.out]
theorem fmost_any (size : Int) (w : World) : Calls Try.prog 40 #[.int .i64 size] w fun e w' => e = .returned (.int .i64 (mostN size)) ∧ Below w.heap.size w w' :=
  (fmost_same size w).mono (by rintro e w' ⟨rfl, rfl⟩; exact ⟨rfl, Below.refl _ _⟩)
set_option maxRecDepth 100000 in
set_option maxHeartbeats 3200000 in
theorem fneed_any (size n : Int) (w : World) (hn : n ≤ 9223372036854775807) : Calls Try.prog 35 #[.int .i64 size, .int .i64 n] w fun e w' => e = .returned (.int .i64 (needF size n)) ∧ Below w.heap.size w w' := by
  have HM := fun w => fmost_same size w
  rcases hg : goodSize size with _ | _
  · have hm0 : mostN size = 0 := by rw [mostN, hg]; rfl
    rw [hm0] at HM
    have HE := Lib.hid (show ((needF size n : Nat) : Int) = 0 by rw [needF, hg]; rfl)
    clear hg hm0
    go_enter Try.func35, Try.ntmps35
    go_wp2_with (go_at_call 40; refine (HM _).mono ?_; rintro e w' ⟨rfl, rfl⟩)
    go_ret
    exact ⟨by rw [HE.out]; rfl, Below.refl _ _⟩
  obtain ⟨z, rfl, hz1, hz2, _⟩ := good_nat hg
  have hmg := mostN_good hg
  obtain ⟨r, hr⟩ : ∃ r, r = mostN z := ⟨_, rfl⟩
  rw [← hr] at HM hmg
  have hr0 : ((r : Int) == 0) = false := by simp; omega
  by_cases h1 : n < 1
  · have HE := Lib.hid (show ((needF z n : Nat) : Int) = 0 by rw [needF, decide_eq_false (show ¬ 1 ≤ n by omega), Bool.and_false]; rfl)
    clear hg hr hmg
    go_enter Try.func35, Try.ntmps35
    go_wp2_with (go_at_call 40; refine (HM _).mono ?_; rintro e w' ⟨rfl, rfl⟩)
    go_ret
    exact ⟨by rw [HE.out]; rfl, Below.refl _ _⟩
  · obtain ⟨m, hm⟩ : ∃ m : Nat, (m : Int) = n - 1 := ⟨(n - 1).toNat, by omega⟩
    obtain ⟨q, hq⟩ : ∃ q, q = m / r := ⟨_, rfl⟩
    have hqm : q ≤ m := by rw [hq]; exact Nat.div_le_self _ _
    have HE := Lib.hid (show ((needF z n : Nat) : Int) = (q : Int) + 1 by
      rw [needF, hg, decide_eq_true (show 1 ≤ n by omega), Bool.and_self, if_pos (by rfl), show n.toNat - 1 = m by omega, ← hr, ← hq]
      rfl)
    obtain rfl : n = (m : Int) + 1 := by omega
    have hr1 : ¬ (r : Int) = 0 := by omega
    have hm9 : ¬ (m : Int) + 1 < 1 := by omega
    have hq9 : q < 9223372036854775807 := by omega
    have hmm9 : m < 9223372036854775807 := by omega
    have hdiv : (m : Int) / (r : Int) = (q : Int) := by rw [hq]; simp
    have hwq : wrap64 (q : Int) = (q : Int) := wrap64_nat q (Nat.lt_succ_of_lt hq9)
    have hwq1 : wrap64 ((q : Int) + 1) = (q : Int) + 1 := wrap64_nat (q + 1) (Nat.succ_lt_succ hq9)
    have hwq2 : IntKind.i64.wrap ((q : Int) + 1) = (q : Int) + 1 := i64_nat (q + 1) (Nat.succ_lt_succ hq9)
    have hwm : IntKind.i64.wrap (m : Int) = (m : Int) := i64_nat m (Nat.lt_succ_of_lt hmm9)
    have hwm2 : wrap64 (m : Int) = (m : Int) := wrap64_nat m (Nat.lt_succ_of_lt hmm9)
    clear hg hm hq hr hz1 hz2 hqm hn h1 hmg hq9 hmm9
    go_enter Try.func35, Try.ntmps35
    go_wp2_with (go_at_call 40; refine (HM _).mono ?_; rintro e w' ⟨rfl, rfl⟩)
    go_ret
    exact ⟨by rw [HE.out]; rfl, Below.refl _ _⟩
end Go.Proofs.Ytabhhccdbfjigaa
namespace Go.Proofs.Ytabhhccdbfjigaa
open Go.RowKit
open Go.Lib hiding intOf
set_option maxRecDepth 100000
set_option linter.unusedVariables false
set_option linter.unusedSimpArgs false
attribute [local go_sem ↓] Go.wp_at_zero Go.wp_at_succ

set_option maxRecDepth 100000 in
set_option maxHeartbeats 6400000 in
theorem sorted_any (g : Nat) (lb : Array Value) (eg : ∀ args w, (callFunc g args).run Try.prog w = .ok (.enter g args) w) (A : Option Addr) (n c : Nat) (l : List Nat) (w : World)
    (hr : Reads w w.heap.size 1 A n (ucells l)) (hn : n ≤ 1000000)
    (hp : ∀ (W : World) (a b : Nat), Below w.heap.size w W → Calls Try.prog g (#[.int .u32 a, .int .u32 b] ++ lb) W fun e w' => ∃ z : Int, e = .returned (.int .i64 z) ∧ decide (z < 0) = decide (a ≤ b) ∧ Below w.heap.size w w') :
    Calls Try.prog 70 #[.slice A n c, .func (.func g) #[] lb] w fun e w' => e = .returned (.bool (ascU l)) ∧ Below w.heap.size w w' := by
  have hl := ulen hr
  have HR := Lib.hid hr
  have HL := Lib.hid hl
  have HP := Lib.hid hp
  clear hr hp
  rcases Nat.eq_zero_or_pos n with h0 | h0
  · subst h0
    have HE := Lib.hid (show ascU l = true by rw [List.eq_nil_of_length_eq_zero hl]; rfl)
    clear hl
    go_enter Try.func70, Try.ntmps70
    go_wp2_with fail
    go_loopw [5] (fun i wr => i = .int .i64 (-1) ∧ wr = w) (fun _ _ => 0)
    case atStart => exact ⟨rfl, rfl⟩
    case round =>
      obtain ⟨rfl, rfl⟩ := hrel
      go_wp2_with fail
      go_ret
      exact ⟨by rw [HE.out] <;> rfl, Below.refl _ _⟩
  obtain ⟨m, rfl⟩ : ∃ m, n = m + 1 := ⟨n - 1, by omega⟩
  have hwm : IntKind.i64.wrap (m : Int) = (m : Int) := i64_nat m (by omega)
  clear hl
  go_enter Try.func70, Try.ntmps70
  go_wp2_with fail
  clear hwm
  go_loopw [5] (fun i wr => ∃ k : Nat, k ≤ m ∧ i = .int .i64 k ∧ Hid (∀ j, k ≤ j → j + 1 < m + 1 → nthU l j < nthU l (j + 1)) ∧ Hid (Below w.heap.size w wr)) (fun i _ => (intOf i).toNat)
  case atStart => exact ⟨m, Nat.le_refl _, rfl, Lib.hid (fun j h1 h2 => absurd h2 (by omega)), Lib.hid (Below.refl _ _)⟩
  case round =>
    obtain ⟨k, hk, rfl, HF, HB⟩ := hrel
    rcases Nat.eq_zero_or_pos k with hk0 | hk0
    · subst hk0
      have HE := Lib.hid (show ascU l = true from ascU_iff.2 (fun i hi => HF.out i (Nat.zero_le _) (by rw [HL.out] at hi; exact hi)))
      clear hk
      go_wp2_with fail
      go_ret
      exact ⟨by rw [HE.out] <;> rfl, HB.out⟩
    · obtain ⟨t, rfl⟩ : ∃ t, k = t + 1 := ⟨k - 1, by omega⟩
      obtain ⟨ad, rfl, hab, hc0⟩ := ureads_at HR.out (show t < m + 1 by omega)
      obtain ⟨ad', ha', _, hc1⟩ := ureads_at HR.out (show t + 1 < m + 1 by omega)
      injection ha' with ha'
      subst ha'
      obtain ⟨a, ha⟩ : ∃ a, a = nthU l t := ⟨_, rfl⟩
      obtain ⟨b, hb⟩ : ∃ b, b = nthU l (t + 1) := ⟨_, rfl⟩
      rw [← ha] at hc0
      rw [← hb] at hc1
      replace hc0 := cell_in hc0 HB.out hab
      replace hc1 := cell_in hc1 HB.out hab
      have hc1' : wr.cell? { block := ad.block, off := ad.off + (t + 1) } = some (.int .u32 b) := by have h := hc1; simpa [Addr.add] using h
      have ht0 : (0 : Int) ≤ t := by omega
      have ht1 : (t : Int) < (m : Int) := by omega
      have ht2 : (t : Int) < (m : Int) + 1 := by omega
      have ht3 : (t : Int) + 1 < (m : Int) + 1 := by omega
      have ht4 : (0 : Int) ≤ (t : Int) + 1 := by omega
      have ht5 : (0 : Int) < (t : Int) + 1 := by omega
      have hwt : IntKind.i64.wrap (t : Int) = (t : Int) := i64_nat t (by omega)
      have HPc := Lib.hid (fun (W : World) (hW : Below w.heap.size w W) => HP.out W b a hW)
      have HA := Lib.hid ha
      have HBb := Lib.hid hb
      have HBd := Lib.hid HB.out.drew
      clear ha hb hab
      by_cases hlt : b ≤ a
      · have HE := Lib.hid (show ascU l = false from ascU_no (i := t) (by rw [HL.out]; omega) (by rw [← HA.out, ← HBb.out]; omega))
        have HLt := Lib.hid hlt
        clear hlt
        go_wp2_with fail
        go_region_with (refine (HPc.out _ HBd.out).mono ?_; rintro e w2 ⟨z, rfl, hz, hb⟩; have HB2 := Lib.hid hb; have hz2 : decide (z < 0) = true := by rw [hz]; exact decide_eq_true HLt.out)
        all_goals (go_wp2_with fail; go_ret; exact ⟨by rw [HE.out] <;> rfl, HB2.out⟩)
      · have HF2 := Lib.hid (show ∀ j, t ≤ j → j + 1 < m + 1 → nthU l j < nthU l (j + 1) from fun j h1 h2 => by
          rcases Nat.lt_or_ge t j with h | h
          · exact HF.out j h h2
          · obtain rfl : j = t := by omega
            rw [← HA.out, ← HBb.out]
            omega)
        have HLt := Lib.hid hlt
        clear hlt
        go_wp2_with fail
        go_region_with (refine (HPc.out _ HBd.out).mono ?_; rintro e w2 ⟨z, rfl, hz, hb⟩; have HB2 := Lib.hid hb; have hz2 : decide (z < 0) = false := by rw [hz]; exact decide_eq_false HLt.out)
        all_goals (
          go_wp2_with fail
          go_roundw
          case rel =>
            first
              | exact ⟨t, by omega, rfl, HF2, HB2⟩
              | ((repeat apply Exists.intro); exact ⟨⟨t, by omega, rfl, HF2, HB2⟩, rfl⟩)
          case measure =>
            show ((t : Int)).toNat < (((t + 1 : Nat)) : Int).toNat
            omega)
/-- Rises's comparison. -/
theorem cmp_any (a b : Nat) (w : World) : Calls Try.prog 71 #[.int .u32 a, .int .u32 b] w fun e w' => ∃ z : Int, e = .returned (.int .i64 z) ∧ decide (z < 0) = decide (a ≤ b) ∧ w' = w := by
  by_cases h : a ≤ b
  · have hd : decide ((b : Int) < (a : Int)) = false := by simp; omega
    have hd3 : decide (b < a) = false := by simp; omega
    have hd2 : decide (a ≤ b) = true := decide_eq_true h
    clear h
    go_enter Try.func71, Try.ntmps71
    go_wp2_with fail
    go_ret
    exact ⟨-1, rfl, by rw [hd2]; rfl, rfl⟩
  · have hd : decide ((b : Int) < (a : Int)) = true := by simp; omega
    have hd3 : decide (b < a) = true := by simp; omega
    have hd2 : decide (a ≤ b) = false := decide_eq_false h
    clear h
    go_enter Try.func71, Try.ntmps71
    go_wp2_with fail
    go_ret
    exact ⟨1, rfl, by rw [hd2]; rfl, rfl⟩
theorem frises_any (A : Option Addr) (n c : Nat) (l : List Nat) (w : World) (hr : Reads w w.heap.size 1 A n (ucells l)) (hn : n ≤ 1000000) :
    Calls Try.prog 36 #[.slice A n c] w fun e w' => e = .returned (.bool (ascU l)) ∧ Below w.heap.size w w' := by
  have hs := sorted_any 71 #[] (fun _ _ => rfl) A n c l w hr hn (fun W a b hB => (cmp_any a b W).mono (by rintro e w' ⟨z, rfl, hz, rfl⟩; exact ⟨z, rfl, hz, hB⟩))
  have HS := Lib.hid hs
  clear hs hr
  go_enter Try.func36, Try.ntmps36
  go_wp2_with fail
  refine HS.out.mono ?_
  rintro e w1 ⟨rfl, hb⟩
  go_wp2_with fail
  go_ret
  exact ⟨rfl, hb⟩
end Go.Proofs.Ytabhhccdbfjigaa
