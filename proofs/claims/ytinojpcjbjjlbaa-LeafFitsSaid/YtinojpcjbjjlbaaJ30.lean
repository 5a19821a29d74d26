/-
  Contract of the reference of layer 8: Of.
-/
import Derived.Test.YtinojpcjbjjlbaaJ28
import Derived.Test.YtinojpcjbjjlbaaJ29
import Derived.Test.YtinojpcjbjjlbaaJ26
import Derived.Deep.CutRange
namespace Go.Proofs.Ytinojpcjbjjlbaa
open Go.RowKit
open Go.Lib hiding intOf
set_option linter.unusedVariables false
set_option linter.unusedSimpArgs false
attribute [local go_sem ↓] Go.wp_at_zero Go.wp_at_succ

theorem infoIt : (Try.prog.info? 35).map (fun i => (i.zero, i.size, i.bytes)) = some (some (.agg #[.string ByteArray.empty, .string ByteArray.empty, .bool false, .int .i64 0, .int .u32 0]), 5, 56) := by kernel_rfl
theorem itc_one (l : List It) : ∀ u ∈ itc l, u.oneCell' = true := by
  intro u hu
  unfold itc rowsOf at hu
  obtain ⟨b, _, hb⟩ := List.mem_flatMap.1 hu
  simp [It.cells] at hb
  rcases hb with rfl | rfl | rfl | rfl | rfl <;> rfl
theorem it_one (b : It) : ∀ u ∈ b.cells, u.oneCell' = true := by
  intro u hu
  simp [It.cells] at hu
  rcases hu with rfl | rfl | rfl | rfl | rfl <;> rfl
theorem page8_neq_no (a0 a1 a2 a3 a4 : Int) (a5 : ByteArray) (w : World) : (binOp .neq 26 (.agg #[.int .i64 a0, .int .i64 a1, .int .u32 a2, .int .u32 a3, .int .u64 a4, .string a5]) (.agg #[.int .i64 a0, .int .i64 a1, .int .u32 a2, .int .u32 a3, .int .u64 a4, .string a5])).run Try.prog w = .ok (.bool false) w := by
  simp [go_sem]
theorem page8_neq_yes (a0 a1 a2 a3 a4 : Int) (a5 : ByteArray) (b0 b1 b2 b3 b4 : Int) (b5 : ByteArray) (w : World) (h : ¬ (a0 = b0 ∧ a1 = b1 ∧ a2 = b2 ∧ a3 = b3 ∧ a4 = b4 ∧ a5 = b5)) : (binOp .neq 26 (.agg #[.int .i64 a0, .int .i64 a1, .int .u32 a2, .int .u32 a3, .int .u64 a4, .string a5]) (.agg #[.int .i64 b0, .int .i64 b1, .int .u32 b2, .int .u32 b3, .int .u64 b4, .string b5])).run Try.prog w = .ok (.bool true) w := by
  have h1 : (((((a0 == b0 && a1 == b1) && a2 == b2) && a3 == b3) && a4 == b4) && a5.toList == b5.toList) = false := by
    rw [Bool.eq_false_iff]
    intro ht
    simp only [Bool.and_eq_true, beq_iff_eq] at ht
    obtain ⟨⟨⟨⟨⟨h0, h1⟩, h2⟩, h3⟩, h4⟩, h5⟩ := ht
    rw [ByteArray.toList_eq, ByteArray.toList_eq] at h5
    exact h ⟨h0, h1, h2, h3, h4, bytes_ext h5⟩
  simp [go_sem] at h1 ⊢
  exact h1
theorem list_none {t : ByteArray} (h : t.size < 1) : t.data.toList = [] := List.eq_nil_of_length_eq_zero (by rw [size_list]; omega)
/-- The front of an item, told by three readings. -/
theorem head8 {s t0 t1 t2 ky : ByteArray} {vo vn : Nat} {x0 x1 x2 : Int} (h0 : tookN 1 s vo x0 t0) (h1 : tookN 1 t0 vn x1 t1) (h2 : tookB vn t1 ky x2 t2) :
    (x0 = 0 ∧ x1 = 0 ∧ x2 = 0 ∧ vo < 256 ∧ stepI s.data.toList = tailI (UInt8.ofNat vo) ky t2.data.toList) ∨ (¬ (x0 = 0 ∧ x1 = 0 ∧ x2 = 0) ∧ stepI s.data.toList = none) := by
  rcases h0 with ⟨a0, rfl, e0, f0⟩ | ⟨a0, rfl, f0⟩
  rotate_left
  · exact .inr ⟨by simp, by rw [list_none a0]; rfl⟩
  obtain ⟨o, r, hs⟩ := list_one (l := s.data.toList) (by rw [size_list]; exact a0)
  have hv : vo = o.toNat := by rw [e0, hs]; exact leNat_one o
  have hr : t0.data.toList = r := by rw [f0, ext_drop, hs]; rfl
  rcases h1 with ⟨a1, rfl, e1, f1⟩ | ⟨a1, rfl, f1⟩
  rotate_left
  · have : r = [] := by rw [← hr]; exact list_none a1
    exact .inr ⟨by simp, by rw [hs, this]; rfl⟩
  obtain ⟨n, q, hq⟩ := list_one (l := t0.data.toList) (by rw [size_list]; exact a1)
  have hn : vn = n.toNat := by rw [e1, hq]; exact leNat_one n
  have hq1 : t1.data.toList = q := by rw [f1, ext_drop, hq]; rfl
  have hrq : r = n :: q := by rw [← hr, hq]
  have hl : t1.size = q.length := by rw [← hq1, size_list]
  rcases h2 with ⟨a2, rfl, e2, f2⟩ | ⟨a2, rfl, f2⟩
  rotate_left
  · refine .inr ⟨by simp, ?_⟩
    rw [hs, hrq]
    simp only [stepI]
    rw [if_pos (by omega)]
  · refine .inl ⟨rfl, rfl, rfl, by rw [hv]; exact o.toNat_lt, ?_⟩
    have h2' : t2.data.toList = q.drop n.toNat := by rw [f2, ext_drop, hq1, hn]
    have hky : ky = ⟨(q.take n.toNat).toArray⟩ := by
      apply bytes_ext
      rw [e2, ext_take, hq1, hn]
    rw [hs, hrq]
    simp only [stepI]
    rw [if_neg (by omega), h2', hky, hv]
    congr 1
    simp
theorem tail8_ov {t t3 t4 ky : ByteArray} {v3 v4 : Nat} {x3 x4 : Int} (h3 : tookN 4 t v3 x3 t3) (h4 : tookN 4 t3 v4 x4 t4) :
    (x3 = 0 ∧ x4 = 0 ∧ tailI 1 ky t.data.toList = some (⟨ky, ⟨#[]⟩, true, (v3 : Nat), v4⟩, t4.data.toList)) ∨ (¬ (x3 = 0 ∧ x4 = 0) ∧ tailI 1 ky t.data.toList = none) := by
  have hl : t.data.toList.length = t.size := size_list t
  rcases h3 with ⟨a3, rfl, e3, f3⟩ | ⟨a3, rfl, f3⟩
  rotate_left
  · refine .inr ⟨by simp, ?_⟩
    unfold tailI
    rw [if_neg (by decide), if_pos rfl, if_pos (by omega)]
  have hl3 : t3.data.toList = t.data.toList.drop 4 := by rw [f3, ext_drop]
  have hs3 : t3.size = t.size - 4 := by rw [← size_list, hl3, List.length_drop, hl]
  rcases h4 with ⟨a4, rfl, e4, f4⟩ | ⟨a4, rfl, f4⟩
  rotate_left
  · refine .inr ⟨by simp, ?_⟩
    unfold tailI
    rw [if_neg (by decide), if_pos rfl, if_pos (by omega)]
  · refine .inl ⟨rfl, rfl, ?_⟩
    unfold tailI
    rw [if_neg (by decide), if_pos rfl, if_neg (by omega), e3, e4, f4, ext_drop, hl3]
theorem tail8_in {t t3 t4 ky vl : ByteArray} {v3 : Nat} {x3 x4 : Int} (h3 : tookN 1 t v3 x3 t3) (h4 : tookB v3 t3 vl x4 t4) :
    (x3 = 0 ∧ x4 = 0 ∧ tailI 0 ky t.data.toList = some (⟨ky, vl, false, 0, 0⟩, t4.data.toList)) ∨ (¬ (x3 = 0 ∧ x4 = 0) ∧ tailI 0 ky t.data.toList = none) := by
  rcases h3 with ⟨a3, rfl, e3, f3⟩ | ⟨a3, rfl, f3⟩
  rotate_left
  · refine .inr ⟨by simp, ?_⟩
    rw [list_none a3]
    rfl
  obtain ⟨m, q, hq⟩ := list_one (l := t.data.toList) (by rw [size_list]; exact a3)
  have hm : v3 = m.toNat := by rw [e3, hq]; exact leNat_one m
  have hq1 : t3.data.toList = q := by rw [f3, ext_drop, hq]; rfl
  have hl : t3.size = q.length := by rw [← hq1, size_list]
  rcases h4 with ⟨a4, rfl, e4, f4⟩ | ⟨a4, rfl, f4⟩
  rotate_left
  · refine .inr ⟨by simp, ?_⟩
    rw [hq]
    simp only [tailI, if_true]
    rw [if_pos (by omega)]
  · refine .inl ⟨rfl, rfl, ?_⟩
    have hvl : vl = ⟨(q.take m.toNat).toArray⟩ := by
      apply bytes_ext
      rw [e4, ext_take, hq1, hm]
    rw [hq]
    simp only [tailI, if_true]
    rw [if_neg (by omega), f4, ext_drop, hq1, hm, hvl]
theorem grown_set (w : World) (g o : Nat) (v : Value) : w.grownBy (w.setCell ⟨g, o, none⟩ v) (some g) := ⟨rfl, rfl, rfl, by simp [World.setCell], fun k _ hne => Below.heap_setCell _ _ _ _ (fun e => hne (by rw [e]))⟩
def OfPost8 (o : Option (List It)) (w : World) (e : Ending) (w' : World) : Prop :=
  match o with
  | none => e = .returned (.tuple #[.slice none 0 0, .int .i64 4]) ∧ Below w.heap.size w w'
  | some l => ∃ A n c, e = .returned (.tuple #[.slice A n c, .int .i64 0]) ∧ Reads w' w'.heap.size 5 A n (itc l) ∧ n ≤ c ∧ c ≤ maxLen ∧ Below w.heap.size w w'
end Go.Proofs.Ytinojpcjbjjlbaa
