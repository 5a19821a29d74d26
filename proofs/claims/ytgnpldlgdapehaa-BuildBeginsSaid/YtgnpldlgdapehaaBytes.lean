/-
  Words for byte rows that a call writes into: bytes in a block of the call's own, read and written one by one. Plain lemmas; no statement is proved here.
-/
import Derived.Test.YtgnpldlgdapehaaWords
import Derived.Laws.MakeOwn
namespace Go.Proofs.Ytgnpldlgdapehaa
open Go.RowKit Go.Lib
set_option linter.unusedVariables false
set_option linter.unusedSimpArgs false

/-- Bytes in block g from its beginning on, which may be written. -/
def MRow (w : World) (g : Nat) (l : List UInt8) : Prop := g < w.heap.size ∧ ∀ j b, l[j]? = some b → w.cell? ⟨g, j, none⟩ = some (.int .u8 (b.toNat : Int)) ∧ w.frozen? ⟨g, j, none⟩ = false
section
variable {w w' : World} {g : Nat} {l : List UInt8}
theorem MRow.keep (h : MRow w g l) (hs : w.heap.size ≤ w'.heap.size) (hb : w'.heap[g]? = w.heap[g]?) : MRow w' g l :=
  ⟨Nat.lt_of_lt_of_le h.1 hs, fun j b hj => ⟨(World.cell?_of_block (a := ⟨g, j, none⟩) hb).trans (h.2 j b hj).1, (World.frozen?_of_block (a := ⟨g, j, none⟩) hb).trans (h.2 j b hj).2⟩⟩
theorem MRow.drew (h : MRow w g l) : MRow w.drew g l := h
theorem MRow.drewN (h : MRow w g l) (n : Nat) : MRow (w.drewN n) g l := h
theorem MRow.alloc (h : MRow w g l) (o : Obj) : MRow (w.alloc o) g l := h.keep (by simp) (Below.heap_alloc w o g h.1)
theorem MRow.below {B : Nat} (h : MRow w g l) (hb : Below B w w') (hg : g < B) : MRow w' g l := h.keep hb.size (hb.block g hg)
theorem MRow.far (h : MRow w g l) {p : Addr} (hp : g ≠ p.block) (u : Value) : MRow (w.setCell p u) g l := h.keep (by simp [World.setCell]) (Below.heap_setCell w p u g hp)
theorem MRow.cell (h : MRow w g l) {j : Nat} (hj : j < l.length) : w.cell? ⟨g, j, none⟩ = some (.int .u8 (l[j].toNat : Int)) := (h.2 j _ (List.getElem?_eq_getElem hj)).1
theorem MRow.frozen (h : MRow w g l) {j : Nat} (hj : j < l.length) : w.frozen? ⟨g, j, none⟩ = false := (h.2 j _ (List.getElem?_eq_getElem hj)).2
theorem MRow.reads (h : MRow w g l) : Reads w w.heap.size 1 (some ⟨g, 0, none⟩) l.length (bcells l) := by
  refine ⟨by rw [bcells_length, Nat.mul_one], fun _ => ⟨_, rfl, h.1, fun j u hu => ?_⟩⟩
  unfold bcells at hu
  rw [List.getElem?_map] at hu
  obtain ⟨b, hb, rfl⟩ := Option.map_eq_some_iff.1 hu
  have e : (⟨g, 0, none⟩ : Addr).add j = ⟨g, j, none⟩ := by unfold Addr.add; split <;> simp_all
  rw [e]
  exact (h.2 j b hb).1
theorem MRow.set_ (h : MRow w g l) {j : Nat} (hj : j < l.length) (b : UInt8) : MRow (w.setCell ⟨g, j, none⟩ (.int .u8 (b.toNat : Int))) g (l.set j b) := by
  refine ⟨by simpa [World.setCell] using h.1, fun i c hc => ?_⟩
  rw [List.getElem?_set] at hc
  by_cases hi : j = i
  · subst hi
    rw [if_pos rfl, if_pos hj] at hc
    injection hc with hc
    subst hc
    exact ⟨World.cell?_setCell_same _ _ _ (h.cell hj), by rw [World.frozen?_setCell]; exact h.frozen hj⟩
  · rw [if_neg hi] at hc
    have h2 := h.2 i c hc
    exact ⟨by rw [World.cell?_setCell_other _ _ _ _ (by simp)]; exact h2.1, by rw [World.frozen?_setCell]; exact h2.2⟩
theorem MRow.of_bytes (w : World) (e : TypeId) (s : ByteArray) (cap : Nat) : MRow (w.drew.alloc (.cells (bytesRow s cap) e ((bytesRow s cap).size, (bytesRow s cap).size + 1))) w.heap.size s.data.toList := by
  refine ⟨by simp, fun j b hj => ?_⟩
  have hj' : j < s.data.size := by simpa using (List.getElem?_eq_some_iff.1 hj).1
  have hw : w.heap.size = w.drew.heap.size := rfl
  refine ⟨?_, ?_⟩
  · rw [hw, World.cell?_alloc_mark, bytesRow_at _ _ _ hj']
    rw [List.getElem?_eq_getElem (by simpa using hj')] at hj
    injection hj with hj
    rw [← hj]; rfl
  · rw [hw, World.frozen?_alloc_mark]
    have hd : s.data.size = s.size := rfl
    have : j < (bytesRow s cap).size := by unfold bytesRow; simp; omega
    simp; omega
theorem MRow.of_cells (w : World) (t : TypeId) (l : List UInt8) (cs : Array Value) (h : cs.toList = bcells l) : MRow (w.alloc (.cells cs t)) w.heap.size l := by
  refine ⟨by simp, fun j b hj => ⟨?_, frozen_of_row _ _ _ cs t ?_⟩⟩
  · rw [World.cell?_alloc_mark, ← Array.getElem?_toList, h, bcells, List.getElem?_map, hj]; rfl
  · exact heap_alloc_new _ _
end
/-- 'make([]byte, n)', in whatever world. -/
theorem run_make_bytes {P : Program} (t e : TypeId) (ht : P.underlying t = some (.slice e)) (hi : (P.info? e).map (fun i => (i.zero, i.size, i.bytes)) = some (some (.int .u8 0), 1, 1)) (n : Nat) (hn : n ≤ 281474976710656) (w : World) :
    (Instr.makeSlice t (.int .i64 (n : Int)) (.int .i64 (n : Int))).run P w = .ok (.slice (some ⟨w.heap.size, 0, none⟩) n n) (w.alloc (.cells (madeCells #[.int .u8 0] n) e)) := by
  obtain ⟨i, hi0, hz, hs, hb⟩ := info_parts hi
  have hr := run_make (P := P) w t e i _ ht hi0 hz .i64 .i64 n n (by omega) (by omega) (by rw [hb]; omega) (by omega)
  simp only [Int.toNat_natCast] at hr
  rw [hs, Nat.mul_one] at hr
  exact hr
theorem MRow.of_made (w : World) (t : TypeId) (n : Nat) : MRow (w.alloc (.cells (madeCells #[.int .u8 0] n) t)) w.heap.size (List.replicate n 0) :=
  MRow.of_cells w t _ _ (by rw [toList_madeCells_one]; simp [bcells])
def zb (n : Nat) : ByteArray := ⟨(List.replicate n (0 : UInt8)).toArray⟩
theorem zb_size (n : Nat) : (zb n).size = n := by show (List.replicate n (0 : UInt8)).toArray.size = n; simp
theorem zb_list (n : Nat) : (zb n).data.toList = List.replicate n 0 := by simp [zb]
theorem wrap64_nat (k : Nat) (h : k < 9223372036854775808) : wrap64 (k : Int) = (k : Int) := by unfold wrap64; omega
theorem i64_nat (k : Nat) (h : k < 9223372036854775808) : IntKind.i64.wrap (k : Int) = (k : Int) := by rw [IntKind.wrap_i64]; omega
end Go.Proofs.Ytgnpldlgdapehaa
