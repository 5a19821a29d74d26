/-
  Texts that the main proof rests on, put together: FrameGet, Bytes, FrameUse, FrameTurn, FrameAll, Pg. No statement is proved here.
-/
import Derived.Test.YtmmjckokjmpfpaaGreatJ6
import Derived.Tactics2
import Derived.Defers
import Derived.Recover
import Derived.Test.YtmmjckokjmpfpaaGreatJ1
import Derived.Laws.MakeOwn
import Derived.Laws.CopyRow
import Derived.Laws.IdiomCopy
import Derived.Laws.ResultCell
import Derived.Test.YtmmjckokjmpfpaaGreatJ2
import Derived.Sort.Walk0
set_option linter.unusedVariables false
set_option linter.unusedSimpArgs false
namespace Go.Proofs.YtmmjckokjmpfpaaGreat
open Go.RowKit
open Go.Lib
attribute [local go_sem ↓] Go.wp_at_zero Go.wp_at_succ

theorem results_row_cell {P : Program} {fn : Func} {p q : Tmp} {ty tq : TypeId} (h : fn.results = #[.cell p ty, .cell q tq]) (tmps : Array Value) (w : World) (g g' : Nat) (t : TypeId) (cs : Array Value) (fr : Nat × Nat) (d : TypeDesc) (v : Value)
  (hp : tmps.getD p undef = .pointer (some ⟨g, 0, none⟩)) (hq : tmps.getD q undef = .pointer (some ⟨g', 0, none⟩)) (hg : w.heap[g]? = some (.cells cs t fr))
  (hu : P.underlying ty = some d) (hd : (match d with | .struct _ | .array _ _ => true | _ => false) = true) (hi : (P.info? ty).map (·.size) = some cs.size) (hv : (loadVar tq ⟨g', 0, none⟩).run P w = .ok v w) :
  (results fn tmps).run P w = .ok (.tuple #[.agg cs, v]) w := by
 have hp' : tmps[p]?.getD undef = .pointer (some ⟨g, 0, none⟩) := by simpa using hp
 have hq' : tmps[q]?.getD undef = .pointer (some ⟨g', 0, none⟩) := by simpa using hq
 simp [results, h, hp', hq', asAddr, run_loadVar_row w g t ty cs fr d hg hu hd hi, hv]
theorem load_errno (w : World) (g : Nat) (n : Int) (h : w.cell? ⟨g, 0, none⟩ = some (.int .i64 n)) : (loadVar 28 ⟨g, 0, none⟩).run Tryz.prog w = .ok (.int .i64 n) w := by
 simp [go_sem, h]

set_option maxHeartbeats 3200000 in
theorem get_dies (size : Int) (s : ByteArray) (n : Nat) (err : Int) (w : World)
  (hp : ∀ w : World, Calls Tryz.prog 133 #[.agg #[.int .i64 size, .string s], .int .u32 n] w fun e w' => Dies e err ∧ Below w.heap.size w w') :
  Calls Tryz.prog 116 #[.int .i64 size, .int .u32 n, .string s] w fun e w' => e = .returned (.tuple #[.agg #[.int .i64 0, .int .i64 0, .int .u32 0, .int .u32 0, .int .u64 0, .string ByteArray.empty], .int .i64 err]) ∧ Below w.heap.size w w' := by
 have hmf : ∀ (fn : Fn) (first cap : Array Value) (w : World), (Instr.makeFunc fn first cap).run Tryz.prog w = .ok (.func fn first cap) w := fun _ _ _ _ => rfl
 obtain ⟨hz, hi⟩ := zero_of_info infoPg
 have HI := Lib.hid hi
 clear hi
 obtain ⟨w0, hw0⟩ : ∃ w0, w0 = ((w.alloc (.cells #[.int .i64 0, .int .i64 0, .int .u32 0, .int .u32 0, .int .u64 0, .string ByteArray.empty] 41)).alloc (.cells #[.int .i64 0] 28)).alloc (.cells #[.int .i64 size, .string s] 206) := ⟨_, rfl⟩
 have r0 : Blk w0 w.heap.size 41 #[.int .i64 0, .int .i64 0, .int .u32 0, .int .u32 0, .int .u64 0, .string ByteArray.empty] := by rw [hw0]; exact ((Blk.new _ _ _).alloc _).alloc _
 have e0 : Blk w0 (w.heap.size + 1) 28 #[.int .i64 0] := by
  rw [hw0]
  have := (Blk.new (w.alloc (.cells #[.int .i64 0, .int .i64 0, .int .u32 0, .int .u32 0, .int .u64 0, .string ByteArray.empty] 41)) 28 #[.int .i64 0]).alloc (.cells #[.int .i64 size, .string s] 206)
  simpa using this
 have hb0 : Below w.heap.size w w0 := by rw [hw0]; exact (((Below.refl _ _).alloc (Nat.le_refl _) _).alloc (by simp) _).alloc (by simp; omega) _
 have R0 := Lib.hid r0
 have E0 := Lib.hid e0
 have HB0 := Lib.hid hb0
 clear r0 e0 hb0
 go_enter_defers Tryz.func116, Tryz.ntmps116
 go_wp2_with fail
 rw [← hw0]
 clear hw0
 refine (hp _).mono ?_
 rintro e w1 ⟨rfl, hb1⟩
 replace HB0 := Lib.hid (HB0.out.trans (hb1.mono HB0.out.size))
 replace E0 := Lib.hid (E0.out.below hb1 E0.out.lt)
 replace R0 := Lib.hid (R0.out.below hb1 R0.out.lt)
 clear hb1
 refine leaves_cons (f := 132) (args := #[.pointer (some ⟨w.heap.size + 1, 0, none⟩)]) (by simp) (by simp [go_sem]) ?_
 refine (catch_wrong ⟨w.heap.size + 1, 0, none⟩ 0 err [] _ (E0.out.cell 0) (E0.out.frozen 0)).mono ?_
 rintro e u' w'' ⟨rfl, rfl, rfl⟩
 have E1 := Lib.hid (Blk.set_ E0.out 0 (.int .i64 err))
 have R1 := Lib.hid (R0.out.far (p := ⟨w.heap.size + 1, 0, none⟩) (Nat.ne_of_lt (Nat.lt_succ_self _)) (.int .i64 err))
 have HB1 := Lib.hid (HB0.out.setCell (p := ⟨w.heap.size + 1, 0, none⟩) (Nat.le_succ _) (.int .i64 err))
 show Leaves _ _ _ _ [] .returning _
 exact ⟨_, results_row_cell rfl _ _ w.heap.size (w.heap.size + 1) 41 #[.int .i64 0, .int .i64 0, .int .u32 0, .int .u32 0, .int .u64 0, .string ByteArray.empty] (0, 0) _ _ rfl rfl R1.out Tryz.underlying41 rfl HI.out (load_errno _ _ _ (E1.out.cell 0)), rfl, HB1.out⟩

set_option maxHeartbeats 3200000 in
theorem get_ok_of (size : Int) (s : ByteArray) (n : Nat) (a0 a1 : Int) (a2 a3 a4 : Nat) (a5 : ByteArray) (w : World)
  (hp : ∀ w : World, Calls Tryz.prog 133 #[.agg #[.int .i64 size, .string s], .int .u32 n] w fun e w' => e = .returned (.agg #[.int .i64 a0, .int .i64 a1, .int .u32 a2, .int .u32 a3, .int .u64 a4, .string a5]) ∧ Below w.heap.size w w') :
  Calls Tryz.prog 116 #[.int .i64 size, .int .u32 n, .string s] w fun e w' => e = .returned (.tuple #[.agg #[.int .i64 a0, .int .i64 a1, .int .u32 a2, .int .u32 a3, .int .u64 a4, .string a5], .int .i64 0]) ∧ Below w.heap.size w w' := by
 have hmf : ∀ (fn : Fn) (first cap : Array Value) (w : World), (Instr.makeFunc fn first cap).run Tryz.prog w = .ok (.func fn first cap) w := fun _ _ _ _ => rfl
 obtain ⟨hz, hi⟩ := zero_of_info infoPg
 have HI := Lib.hid hi
 clear hi
 obtain ⟨w0, hw0⟩ : ∃ w0, w0 = ((w.alloc (.cells #[.int .i64 0, .int .i64 0, .int .u32 0, .int .u32 0, .int .u64 0, .string ByteArray.empty] 41)).alloc (.cells #[.int .i64 0] 28)).alloc (.cells #[.int .i64 size, .string s] 206) := ⟨_, rfl⟩
 have r0 : Blk w0 w.heap.size 41 #[.int .i64 0, .int .i64 0, .int .u32 0, .int .u32 0, .int .u64 0, .string ByteArray.empty] := by rw [hw0]; exact ((Blk.new _ _ _).alloc _).alloc _
 have e0 : Blk w0 (w.heap.size + 1) 28 #[.int .i64 0] := by
  rw [hw0]
  have := (Blk.new (w.alloc (.cells #[.int .i64 0, .int .i64 0, .int .u32 0, .int .u32 0, .int .u64 0, .string ByteArray.empty] 41)) 28 #[.int .i64 0]).alloc (.cells #[.int .i64 size, .string s] 206)
  simpa using this
 have hb0 : Below w.heap.size w w0 := by rw [hw0]; exact (((Below.refl _ _).alloc (Nat.le_refl _) _).alloc (by simp) _).alloc (by simp; omega) _
 have R0 := Lib.hid r0
 have E0 := Lib.hid e0
 have HB0 := Lib.hid hb0
 clear r0 e0 hb0
 go_enter_defers Tryz.func116, Tryz.ntmps116
 go_wp2_with fail
 rw [← hw0]
 clear hw0
 refine (hp _).mono ?_
 rintro e w1 ⟨rfl, hb1⟩
 replace HB0 := Lib.hid (HB0.out.trans (hb1.mono HB0.out.size))
 replace E0 := Lib.hid (E0.out.below hb1 E0.out.lt)
 replace R0 := Lib.hid (R0.out.below hb1 R0.out.lt)
 clear hb1
 have E1 := Lib.hid ((six_far (a0 := .int .i64 a0) (a1 := .int .i64 a1) (a2 := .int .u32 a2) (a3 := .int .u32 a3) (a4 := .int .u64 a4) (a5 := .string a5) E0.out (Nat.ne_of_gt (Nat.lt_succ_self w.heap.size))).set_ 0 (.int .i64 0))
 have R1 := Lib.hid ((six_at (a0 := .int .i64 a0) (a1 := .int .i64 a1) (a2 := .int .u32 a2) (a3 := .int .u32 a3) (a4 := .int .u64 a4) (a5 := .string a5) R0.out).far (p := ⟨w.heap.size + 1, 0, none⟩) (Nat.ne_of_lt (Nat.lt_succ_self _)) (.int .i64 0))
 have HB1 := Lib.hid ((six_below (a0 := .int .i64 a0) (a1 := .int .i64 a1) (a2 := .int .u32 a2) (a3 := .int .u32 a3) (a4 := .int .u64 a4) (a5 := .string a5) HB0.out (Nat.le_refl w.heap.size)).setCell (p := ⟨w.heap.size + 1, 0, none⟩) (Nat.le_succ _) (.int .i64 0))
 have k0 := R0.out.cell 0
 have k1 := R0.out.cell 1
 have k2 := R0.out.cell 2
 have k3 := R0.out.cell 3
 have k4 := R0.out.cell 4
 have k5 := R0.out.cell 5
 have ke := E0.out.cell 0
 have f0 := R0.out.frozen 0
 have f1 := R0.out.frozen 1
 have f2 := R0.out.frozen 2
 have f3 := R0.out.frozen 3
 have f4 := R0.out.frozen 4
 have f5 := R0.out.frozen 5
 have fe := E0.out.frozen 0
 simp at k0 k1 k2 k3 k4 k5 ke
 go_wp2_with fail
 refine leaves_cons (f := 132) (args := #[.pointer (some ⟨w.heap.size + 1, 0, none⟩)]) (by simp) (by simp [go_sem]) ?_
 refine (catch_idle ⟨w.heap.size + 1, 0, none⟩ _).mono ?_
 rintro e u' w'' ⟨rfl, rfl, rfl⟩
 show Leaves _ _ _ _ [] .returning _
 exact ⟨_, results_row_cell rfl _ _ w.heap.size (w.heap.size + 1) 41 #[.int .i64 a0, .int .i64 a1, .int .u32 a2, .int .u32 a3, .int .u64 a4, .string a5] (0, 0) _ _ rfl rfl R1.out Tryz.underlying41 rfl HI.out (load_errno _ _ _ (E1.out.cell 0)), rfl, HB1.out⟩
end Go.Proofs.YtmmjckokjmpfpaaGreat

namespace Go.Proofs.YtmmjckokjmpfpaaGreat
open Go.RowKit Go.Lib

def MRow (w : World) (g : Nat) (l : List UInt8) : Prop := g < w.heap.size ∧ ∀ j b, l[j]? = some b → w.cell? ⟨g, j, none⟩ = some (.int .u8 (b.toNat : Int)) ∧ w.frozen? ⟨g, j, none⟩ = false
section
variable {w w' : World} {g : Nat} {l : List UInt8}
theorem MRow.drew (h : MRow w g l) : MRow w.drew g l := h
theorem MRow.cell (h : MRow w g l) {j : Nat} (hj : j < l.length) : w.cell? ⟨g, j, none⟩ = some (.int .u8 (l[j].toNat : Int)) := (h.2 j _ (List.getElem?_eq_getElem hj)).1
theorem MRow.frozen (h : MRow w g l) {j : Nat} (hj : j < l.length) : w.frozen? ⟨g, j, none⟩ = false := (h.2 j _ (List.getElem?_eq_getElem hj)).2
theorem MRow.reads (h : MRow w g l) : Reads w w.heap.size 1 (some ⟨g, 0, none⟩) l.length (bcells l) := by
 refine ⟨by rw [bcells_length, Nat.mul_one], fun _ => ⟨_, rfl, h.1, fun j u hu => ?_⟩⟩
 unfold bcells at hu
 rw [List.getElem?_map] at hu
 obtain ⟨b, hb, rfl⟩ := Option.map_eq_some_iff.1 hu
 have e : (⟨g, 0, none⟩ : Addr).add j = ⟨g, j, none⟩ := by unfold Addr.add; split <;> simp_all
 rw [e]
 exact (h.2 j b hb).1
theorem MRow.set_ (h : MRow w g l) {j : Nat} (hj : j < l.length) (b : UInt8) : MRow (w.setCell ⟨g, j, none⟩ (.int .u8 (b.toNat : Int))) g (l.set j b) := by
 refine ⟨by simpa [World.setCell] using h.1, fun i c hc => ?_⟩
 rw [List.getElem?_set] at hc
 by_cases hi : j = i
 ·subst hi
  rw [if_pos rfl, if_pos hj] at hc
  injection hc with hc
  subst hc
  exact ⟨World.cell?_setCell_same _ _ _ (h.cell hj), by rw [World.frozen?_setCell]; exact h.frozen hj⟩
 ·rw [if_neg hi] at hc
  have h2 := h.2 i c hc
  exact ⟨by rw [World.cell?_setCell_other _ _ _ _ (by simp)]; exact h2.1, by rw [World.frozen?_setCell]; exact h2.2⟩
theorem MRow.of_bytes (w : World) (e : TypeId) (s : ByteArray) (cap : Nat) : MRow (w.drew.alloc (.cells (bytesRow s cap) e ((bytesRow s cap).size, (bytesRow s cap).size + 1))) w.heap.size s.data.toList := by
 refine ⟨by simp, fun j b hj => ?_⟩
 have hj' : j < s.data.size := by simpa using (List.getElem?_eq_some_iff.1 hj).1
 have hw : w.heap.size = w.drew.heap.size := rfl
 refine ⟨?_, ?_⟩
 ·rw [hw, World.cell?_alloc_mark, bytesRow_at _ _ _ hj']
  rw [List.getElem?_eq_getElem (by simpa using hj')] at hj
  injection hj with hj
  rw [← hj]; rfl
 ·rw [hw, World.frozen?_alloc_mark]
  have hd : s.data.size = s.size := rfl
  have : j < (bytesRow s cap).size := by unfold bytesRow; simp; omega
  simp; omega
theorem MRow.of_cells (w : World) (t : TypeId) (l : List UInt8) (cs : Array Value) (h : cs.toList = bcells l) : MRow (w.alloc (.cells cs t)) w.heap.size l := by
 refine ⟨by simp, fun j b hj => ⟨?_, frozen_of_row _ _ _ cs t ?_⟩⟩
 ·rw [World.cell?_alloc_mark, ← Array.getElem?_toList, h, bcells, List.getElem?_map, hj]; rfl
 ·exact heap_alloc_new _ _
end
theorem run_make_bytes {P : Program} (t e : TypeId) (ht : P.underlying t = some (.slice e)) (hi : (P.info? e).map (fun i => (i.zero, i.size, i.bytes)) = some (some (.int .u8 0), 1, 1)) (n : Nat) (hn : n ≤ 281474976710656) (w : World) :
  (Instr.makeSlice t (.int .i64 (n : Int)) (.int .i64 (n : Int))).run P w = .ok (.slice (some ⟨w.heap.size, 0, none⟩) n n) (w.alloc (.cells (madeCells #[.int .u8 0] n) e)) := by
 obtain ⟨i, hi0, hz, hs, hb⟩ := info_parts hi
 have hr := run_make (P := P) w t e i _ ht hi0 hz .i64 .i64 n n (by omega) (by omega) (by rw [hb]; omega) (by omega)
 simp only [Int.toNat_natCast] at hr
 rw [hs, Nat.mul_one] at hr
 exact hr
theorem MRow.of_made (w : World) (t : TypeId) (n : Nat) : MRow (w.alloc (.cells (madeCells #[.int .u8 0] n) t)) w.heap.size (List.replicate n 0) :=
 MRow.of_cells w t _ _ (by rw [toList_madeCells_one]; simp [bcells])
def zb (n : Nat) : ByteArray := ⟨(List.replicate n (0 : UInt8)).toArray⟩
theorem zb_size (n : Nat) : (zb n).size = n := by show (List.replicate n (0 : UInt8)).toArray.size = n; simp
theorem zb_list (n : Nat) : (zb n).data.toList = List.replicate n 0 := by simp [zb]
theorem wrap64_nat (k : Nat) (h : k < 9223372036854775808) : wrap64 (k : Int) = (k : Int) := by unfold wrap64; omega
theorem i64_nat (k : Nat) (h : k < 9223372036854775808) : IntKind.i64.wrap (k : Int) = (k : Int) := by rw [IntKind.wrap_i64]; omega
end Go.Proofs.YtmmjckokjmpfpaaGreat

namespace Go.Proofs.YtmmjckokjmpfpaaGreat
open Go.RowKit
open Go.Lib

/-! Get. -/
theorem mid {α : Type} (A B C : List α) (f k : Nat) (hf : A.length = f) (hk : B.length = k) : List.take k (List.drop f (A ++ (B ++ C))) = B := by
 subst hf hk
 simp
section
variable (kd ct pg lk tx : Nat) (bd : ByteArray)
theorem pageB_take4 : List.take 4 (pageB kd ct pg lk tx bd).data.toList = Go.leBytes 4 (crcM 0 (restL kd ct pg lk tx bd)) := by
 rw [pageB_list]; simp [leB_len]
theorem pageB_drop4 : List.drop 4 (pageB kd ct pg lk tx bd).data.toList = restL kd ct pg lk tx bd := by
 rw [pageB_list]; simp [leB_len]
theorem leNat_le (k v : Nat) (h : v < 2 ^ (8 * k)) : leNat (Go.leBytes k v) = v := by rw [leNat_leBytes_mod, Nat.mod_eq_of_lt h]
theorem pageB_sum : leNat (List.take 4 (pageB kd ct pg lk tx bd).data.toList) = crcM 0 (List.drop 4 (pageB kd ct pg lk tx bd).data.toList) := by
 rw [pageB_take4, pageB_drop4, leNat_le _ _ (crcM_lt _ _)]
theorem pageB_parts : (pageB kd ct pg lk tx bd).data.toList = Go.leBytes 4 (crcM 0 (restL kd ct pg lk tx bd)) ++ (Go.leBytes 1 kd ++ (Go.leBytes 1 1 ++ (Go.leBytes 2 ct ++ (Go.leBytes 4 pg ++ (Go.leBytes 4 lk ++ (Go.leBytes 8 tx ++ bd.data.toList)))))) := by
 rw [pageB_list, restL, headL]; simp
end
theorem pageB_at (kd ct pg lk tx : Nat) (bd : ByteArray) (h1 : kd < 256) (h2 : ct < 65536) (h3 : pg < 4294967296) (h4 : lk < 4294967296) (h5 : tx < 18446744073709551616) :
  leNat (List.take 1 (List.drop 4 (pageB kd ct pg lk tx bd).data.toList)) = kd ∧ leNat (List.take 1 (List.drop 5 (pageB kd ct pg lk tx bd).data.toList)) = 1 ∧
  leNat (List.take 2 (List.drop 6 (pageB kd ct pg lk tx bd).data.toList)) = ct ∧ leNat (List.take 4 (List.drop 8 (pageB kd ct pg lk tx bd).data.toList)) = pg ∧
  leNat (List.take 4 (List.drop 12 (pageB kd ct pg lk tx bd).data.toList)) = lk ∧ leNat (List.take 8 (List.drop 16 (pageB kd ct pg lk tx bd).data.toList)) = tx ∧
  (pageB kd ct pg lk tx bd).extract 24 (pageB kd ct pg lk tx bd).size = bd := by
 have hl := pageB_parts kd ct pg lk tx bd
 have hz := pageB_size kd ct pg lk tx bd
 have a0 := leB_len 4 (crcM 0 (restL kd ct pg lk tx bd))
 have a1 := leB_len 1 kd
 have a2 := leB_len 1 1
 have a3 := leB_len 2 ct
 have a4 := leB_len 4 pg
 have a5 := leB_len 4 lk
 have a6 := leB_len 8 tx
 have n1 := leNat_le 1 kd (by omega)
 have n2 := leNat_le 1 1 (by omega)
 have n3 := leNat_le 2 ct (by omega)
 have n4 := leNat_le 4 pg (by omega)
 have n5 := leNat_le 4 lk (by omega)
 have n6 := leNat_le 8 tx (by omega)
 have hx : ((pageB kd ct pg lk tx bd).extract 24 (pageB kd ct pg lk tx bd).size).data.toList = List.drop 24 (pageB kd ct pg lk tx bd).data.toList := by
  rw [Lib.extract_data, List.take_of_length_le]
  rw [List.length_drop, size_list]; exact Nat.le_refl _
 rw [hl] at hx ⊢
 generalize Go.leBytes 4 (crcM 0 (restL kd ct pg lk tx bd)) = S at *
 generalize Go.leBytes 1 kd = K at *
 generalize Go.leBytes 1 1 = V at *
 generalize Go.leBytes 2 ct = C at *
 generalize Go.leBytes 4 pg = P at *
 generalize Go.leBytes 4 lk = L at *
 generalize Go.leBytes 8 tx = T at *
 refine ⟨?_, ?_, ?_, ?_, ?_, ?_, ?_⟩
 ·rw [mid S K _ 4 1 a0 a1, n1]
 ·rw [show S ++ (K ++ (V ++ (C ++ (P ++ (L ++ (T ++ bd.data.toList)))))) = (S ++ K) ++ (V ++ (C ++ (P ++ (L ++ (T ++ bd.data.toList))))) by simp only [List.append_assoc], mid (S ++ K) V _ 5 1 (by simp [a0, a1]) a2, n2]
 ·rw [show S ++ (K ++ (V ++ (C ++ (P ++ (L ++ (T ++ bd.data.toList)))))) = (S ++ K ++ V) ++ (C ++ (P ++ (L ++ (T ++ bd.data.toList)))) by simp only [List.append_assoc], mid (S ++ K ++ V) C _ 6 2 (by simp [a0, a1, a2]) a3, n3]
 ·rw [show S ++ (K ++ (V ++ (C ++ (P ++ (L ++ (T ++ bd.data.toList)))))) = (S ++ K ++ V ++ C) ++ (P ++ (L ++ (T ++ bd.data.toList))) by simp only [List.append_assoc], mid (S ++ K ++ V ++ C) P _ 8 4 (by simp [a0, a1, a2, a3]) a4, n4]
 ·rw [show S ++ (K ++ (V ++ (C ++ (P ++ (L ++ (T ++ bd.data.toList)))))) = (S ++ K ++ V ++ C ++ P) ++ (L ++ (T ++ bd.data.toList)) by simp only [List.append_assoc], mid (S ++ K ++ V ++ C ++ P) L _ 12 4 (by simp [a0, a1, a2, a3, a4]) a5, n5]
 ·rw [show S ++ (K ++ (V ++ (C ++ (P ++ (L ++ (T ++ bd.data.toList)))))) = (S ++ K ++ V ++ C ++ P ++ L) ++ (T ++ bd.data.toList) by simp only [List.append_assoc], mid (S ++ K ++ V ++ C ++ P ++ L) T _ 16 8 (by simp [a0, a1, a2, a3, a4, a5]) a6, n6]
 ·apply bytes_ext
  rw [hx, show S ++ (K ++ (V ++ (C ++ (P ++ (L ++ (T ++ bd.data.toList)))))) = (S ++ K ++ V ++ C ++ P ++ L ++ T) ++ bd.data.toList by simp only [List.append_assoc], List.drop_left' (by simp [a0, a1, a2, a3, a4, a5, a6])]
/-! At. -/
theorem at_yes (size n : Nat) (s : ByteArray) (w : World) (hg : goodSize size = true) (hs : s.size ≤ maxLen) (hn : n < s.size / size) :
  Calls Tryz.prog 115 #[.int .i64 size, .string s, .int .u32 n] w fun e w' => e = .returned (.tuple #[.string (s.extract (n * size) (n * size + size)), .bool true]) ∧ w = w' := by
 have hp := good_pos hg
 have HP := fun w => fpages_yes size s w hg hs
 obtain ⟨q, hq⟩ : ∃ q, q = s.size / size := ⟨_, rfl⟩
 have hb : n * size + size ≤ s.size := by
  have h1 : (n + 1) * size ≤ s.size / size * size := Nat.mul_le_mul_right _ hn
  have h2 := Nat.div_mul_le_self s.size size
  rw [Nat.add_mul, Nat.one_mul] at h1
  omega
 have hql : s.size / size ≤ s.size := Nat.div_le_self _ _
 rw [← hq] at HP hql hn
 unfold maxLen at hs
 obtain ⟨f, hf⟩ : ∃ f, f = n * size := ⟨_, rfl⟩
 rw [← hf] at hb ⊢
 have g1 : decide (q ≤ n) = false := by simp; omega
 have g2 : (0 : Int) ≤ f := by omega
 have g4 : (f : Int) ≤ ((f + size : Nat) : Int) := by omega
 have g5 : ((f + size : Nat) : Int) ≤ s.size := by omega
 have z1 : n < 18446744073709551616 := by omega
 have z2 : q < 18446744073709551616 := by omega
 have z3 : n < 9223372036854775808 := by omega
 have z4 : f < 9223372036854775808 := by omega
 have z5 : f + size < 9223372036854775808 := by omega
 have w1 := u64_nat n z1
 have w2 := u64_nat q z2
 have w3 := i64_nat n z3
 have w4 : wrap64 ((n : Int) * (size : Int)) = (f : Int) := by rw [← Int.natCast_mul, ← hf]; exact wrap64_nat f z4
 have g3 : wrap64 ((f : Int) + (size : Int)) = ((f + size : Nat) : Int) := by rw [← Int.natCast_add]; exact wrap64_nat _ z5
 clear hq hf hn hql hs hp hb z1 z2 z3 z4 z5
 go_enter Tryz.func115, Tryz.ntmps115
 go_wp2_with fail
 refine (HP _).mono ?_
 rintro e w' ⟨rfl, rfl⟩
 go_wp2_with fail
 go_ret2
 exact ⟨rfl, rfl⟩
theorem at_no (size n : Nat) (s : ByteArray) (w : World) (hg : goodSize size = true) (hs : s.size ≤ maxLen) (hn : ¬ n < s.size / size) (hn2 : n < 4294967296) :
  Calls Tryz.prog 115 #[.int .i64 size, .string s, .int .u32 n] w fun e w' => e = .returned (.tuple #[.string ⟨#[]⟩, .bool false]) ∧ w = w' := by
 have HP := fun w => fpages_yes size s w hg hs
 obtain ⟨q, hq⟩ : ∃ q, q = s.size / size := ⟨_, rfl⟩
 have hql : s.size / size ≤ s.size := Nat.div_le_self _ _
 rw [← hq] at HP hql hn
 unfold maxLen at hs
 have g1 : decide (q ≤ n) = true := by simp; omega
 have w1 := u64_nat n (by omega)
 have w2 := u64_nat q (by omega)
 clear hq hn hql hs hn2
 go_enter Tryz.func115, Tryz.ntmps115
 go_wp2_with fail
 refine (HP _).mono ?_
 rintro e w' ⟨rfl, rfl⟩
 go_wp2_with fail
 go_ret2
 exact ⟨rfl, rfl⟩
end Go.Proofs.YtmmjckokjmpfpaaGreat

namespace Go.Proofs.YtmmjckokjmpfpaaGreat
open Go.Lib

theorem le_same : ∀ (k v : Nat), Lib.leBytes k v = Go.leBytes k v
 | 0, _ => rfl
 | k + 1, v => by rw [Lib.leBytes, Go.leBytes, le_same k]
def Parts (b p k a c : Nat) : Prop := (a = 0 → lowAt b p k % 4294967296 = 0) ∧ (c = 0 → lowAt b p k < 4294967296)
theorem xor_cancel : ∀ (D E : List UInt8), D.length = E.length → List.zipWith (· ^^^ ·) (List.zipWith (· ^^^ ·) D E) D = E
 | [], [], _ => rfl
 | [], _ :: _, h => by simp at h
 | _ :: _, [], h => by simp at h
 | d :: D, e :: E, h => by
  have ih := xor_cancel D E (by simpa using h)
  simp only [List.zipWith_cons_cons, ih]
  rw [UInt8.xor_comm d e, UInt8.xor_assoc, UInt8.xor_self, UInt8.xor_zero]
theorem xor_self_z : ∀ D : List UInt8, List.zipWith (· ^^^ ·) D D = Go.leBytes D.length 0
 | [] => rfl
 | d :: D => by
  simp only [List.zipWith_cons_cons, xor_self_z D, UInt8.xor_self, List.length_cons, Go.leBytes, Nat.zero_div]
  rfl
theorem xor_zeros : ∀ D : List UInt8, List.zipWith (· ^^^ ·) D (Go.leBytes D.length 0) = D
 | [] => rfl
 | d :: D => by
  simp only [List.length_cons, Go.leBytes, Nat.zero_div, List.zipWith_cons_cons, xor_zeros D]
  congr 1
  show d ^^^ (0 % 256).toUInt8 = d
  exact UInt8.xor_zero
theorem leNat_inj : ∀ (A B : List UInt8), A.length = B.length → leNat A = leNat B → A = B
 | [], [], _, _ => rfl
 | [], _ :: _, h, _ => by simp at h
 | _ :: _, [], h, _ => by simp at h
 | a :: A, b :: B, h, e => by
  simp only [leNat] at e
  have ha := a.toNat_lt
  have hb := b.toNat_lt
  have h1 : a.toNat = b.toNat := by omega
  have h2 : leNat A = leNat B := by omega
  rw [UInt8.toNat_inj.1 h1, leNat_inj A B (by simpa using h) h2]
theorem leBytes_cut (m v : Nat) : Go.leBytes (4 + m) v = Go.leBytes 4 v ++ Go.leBytes m (v / 4294967296) := by
 rw [show 4 + m = m + 1 + 1 + 1 + 1 by omega]
 simp only [Go.leBytes, Nat.div_div_eq_div_mul, List.cons_append, List.nil_append]
theorem leBytes_mod4 (v : Nat) (h : v % 4294967296 = 0) : Go.leBytes 4 v = Go.leBytes 4 0 := by
 simp only [Go.leBytes, Nat.zero_div]
 have h0 : v % 256 = 0 := by omega
 have h1 : v / 256 % 256 = 0 := by omega
 have h2 : v / 256 / 256 % 256 = 0 := by omega
 have h3 : v / 256 / 256 / 256 % 256 = 0 := by omega
 rw [h0, h1, h2, h3]
theorem crc_inj {l m : List UInt8} (h : crcM 0 l = crcM 0 m) : run 4294967295 l = run 4294967295 m := by
 have h1 := run_lt l (show 4294967295 < 4294967296 by omega)
 have h2 := run_lt m (show 4294967295 < 4294967296 by omega)
 unfold crcM at h
 rw [Nat.sub_zero] at h
 omega
theorem burst_bad (l : List UInt8) (d p : Nat) (hd : d < 4294967296) (h0 : d ≠ 0) (hp : p + 32 ≤ 8 * l.length) (hl : 8 ≤ l.length) (hs : leNat (List.take 4 l) = crcM 0 (List.drop 4 l))
  (hv : lowAt d p 32 % 4294967296 = 0 ∨ lowAt d p 32 < 4294967296) : ¬ leNat (List.take 4 (turned l d p 32)) = crcM 0 (List.drop 4 (turned l d p 32)) := by
 have hlow : lowAt d p 32 = d * 2 ^ p := by unfold lowAt; rw [Nat.mod_eq_of_lt (by omega)]
 obtain ⟨n, hn⟩ : ∃ n, l.length = 4 + n := ⟨l.length - 4, by omega⟩
 have htl : (List.take 4 l).length = 4 := by rw [List.length_take]; omega
 have hdl : (List.drop 4 l).length = n := by rw [List.length_drop]; omega
 have e1 : List.take 4 (turned l d p 32) = List.zipWith (· ^^^ ·) (List.take 4 l) (Go.leBytes 4 (lowAt d p 32)) := by
  unfold turned
  rw [List.take_zipWith, hn, le_same, leBytes_cut, List.take_left' (leB_len _ _)]
 have e2 : List.drop 4 (turned l d p 32) = List.zipWith (· ^^^ ·) (List.drop 4 l) (Go.leBytes n (lowAt d p 32 / 4294967296)) := by
  unfold turned
  rw [List.drop_zipWith, hn, le_same, leBytes_cut, List.drop_left' (leB_len _ _)]
 rw [e1, e2]
 rcases hv with hv | hv
 ·have e3 : List.zipWith (· ^^^ ·) (List.take 4 l) (Go.leBytes 4 (lowAt d p 32)) = List.take 4 l := by
   rw [leBytes_mod4 _ hv]
   have := xor_zeros (List.take 4 l)
   rw [htl] at this
   exact this
  rw [e3, hs]
  intro he
  have hr := crc_inj he
  have hlt : d * 2 ^ p < 2 ^ (8 * (4 + n)) := by
   have h1 : d * 2 ^ p < 2 ^ 32 * 2 ^ p := Nat.mul_lt_mul_of_pos_right (by omega) (Nat.two_pow_pos p)
   rw [← Nat.pow_add] at h1
   exact Nat.lt_of_lt_of_le h1 (Nat.pow_le_pow_right (by omega) (by omega))
  have hlt2 : lowAt d p 32 / 4294967296 < 2 ^ (8 * n) := by
   rw [hlow]
   rw [show 8 * (4 + n) = 32 + 8 * n by omega, Nat.pow_add] at hlt
   exact Nat.div_lt_of_lt_mul (by simpa using hlt)
  obtain ⟨u, i, hu, hul, hi, hui⟩ : ∃ u i : Nat, u ≠ 0 ∧ u < 4294967296 ∧ i ≤ 8 * n ∧ lowAt d p 32 / 4294967296 = u * 2 ^ i := by
   by_cases hp2 : 32 ≤ p
   ·refine ⟨d, p - 32, h0, hd, by omega, ?_⟩
    have h2 : 2 ^ p = 2 ^ (p - 32) * 4294967296 := by
     have h3 : 2 ^ p = 2 ^ (p - 32 + 32) := by congr 1; omega
     rw [h3, Nat.pow_add]
    rw [hlow, h2, ← Nat.mul_assoc, Nat.mul_div_cancel _ (by omega)]
   ·refine ⟨lowAt d p 32 / 4294967296, 0, ?_, ?_, by omega, by simp⟩
    ·have h4 : lowAt d p 32 ≠ 0 := by
      rw [hlow]
      exact Nat.mul_ne_zero h0 (Nat.ne_of_gt (Nat.two_pow_pos p))
     omega
    ·have h1 : d * 2 ^ p < 2 ^ 32 * 2 ^ p := Nat.mul_lt_mul_of_pos_right (by omega) (Nat.two_pow_pos p)
     have h2 : 2 ^ p ≤ 2 ^ 31 := Nat.pow_le_pow_right (by omega) (by omega)
     rw [hlow]
     have h5 : 2 ^ 32 * 2 ^ p ≤ 4294967296 * 2147483648 := Nat.mul_le_mul (by omega) (by omega)
     refine Nat.div_lt_of_lt_mul ?_
     omega
  rw [hui] at hr hlt2
  refine run_ne 4294967295 n u i ?_ hu hul hi hlt2 ?_ hr.symm
  ·rw [List.length_zipWith, hdl, leB_len]; exact Nat.min_self n
  ·rw [le_same]; exact xor_cancel _ _ (by rw [hdl, leB_len])
 ·have e4 : List.zipWith (· ^^^ ·) (List.drop 4 l) (Go.leBytes n (lowAt d p 32 / 4294967296)) = List.drop 4 l := by
   rw [Nat.div_eq_of_lt hv]
   have := xor_zeros (List.drop 4 l)
   rw [hdl] at this
   exact this
  rw [e4, ← hs]
  intro he
  have h1 := leNat_inj _ _ (by rw [List.length_zipWith, leB_len, htl]; rfl) he
  have h2 := xor_cancel (List.take 4 l) (Go.leBytes 4 (lowAt d p 32)) (by rw [htl, leB_len])
  rw [h1, xor_self_z, htl] at h2
  have h3 := congrArg leNat h2
  rw [leNat_leBytes_mod, leNat_leBytes_mod] at h3
  have h4 : lowAt d p 32 ≠ 0 := by
   rw [hlow]
   exact Nat.mul_ne_zero h0 (Nat.ne_of_gt (Nat.two_pow_pos p))
  omega
end Go.Proofs.YtmmjckokjmpfpaaGreat

namespace Go.Proofs.YtmmjckokjmpfpaaGreat
open Go.RowKit
open Go.Lib

def numAt (s : ByteArray) (f k : Nat) : Nat := leNat (List.take k (List.drop f s.data.toList))
def blockOk (size : Int) (n : Nat) (s : ByteArray) : Bool :=
 decide ((s.size : Int) = size) && (decide (leNat (List.take 4 s.data.toList) = crcM 0 (List.drop 4 s.data.toList)) && (decide (numAt s 5 1 = 1) && (decide (numAt s 8 4 = n) && mayPg size (numAt s 4 1) (numAt s 6 2) (numAt s 8 4) (numAt s 12 4) (numAt s 16 8) (s.extract 24 s.size))))
theorem get_right (size : Int) (n : Nat) (s : ByteArray) (w : World) (h : blockOk size n s = true) :
  Calls Tryz.prog 116 #[.int .i64 size, .int .u32 n, .string s] w fun e w' => e = .returned (.tuple #[.agg #[.int .i64 (numAt s 4 1), .int .i64 (numAt s 6 2), .int .u32 (numAt s 8 4), .int .u32 (numAt s 12 4), .int .u64 (numAt s 16 8), .string (s.extract 24 s.size)], .int .i64 0]) ∧ Below w.heap.size w w' := by
 simp only [blockOk, Bool.and_eq_true, decide_eq_true_eq] at h
 obtain ⟨h1, h2, h3, h4, h5⟩ := h
 have hg : goodSize size = true := by
  simp only [mayPg, Bool.and_eq_true] at h5
  exact h5.1
 exact get_ok_of size s n _ _ _ _ _ _ w fun w => rpage_ok size s n w hg h1 h2 h3 _ _ _ _ _ rfl rfl rfl rfl rfl h5 h4
theorem get_wrong (size : Int) (n : Nat) (s : ByteArray) (w : World) (hg : goodSize size = true) (h : blockOk size n s = false) :
  Calls Tryz.prog 116 #[.int .i64 size, .int .u32 n, .string s] w fun e w' => e = .returned (.tuple #[.agg #[.int .i64 0, .int .i64 0, .int .u32 0, .int .u32 0, .int .u64 0, .string ByteArray.empty], .int .i64 4]) ∧ Below w.heap.size w w' := by
 refine get_dies size s n 4 w fun w => ?_
 by_cases h1 : (s.size : Int) = size
 case neg => exact rpage_len size s n w hg h1
 by_cases h2 : leNat (List.take 4 s.data.toList) = crcM 0 (List.drop 4 s.data.toList)
 case neg => exact rpage_sum size s n w hg h1 h2
 by_cases h3 : numAt s 5 1 = 1
 case neg => exact rpage_ver size s n w hg h1 h2 h3
 by_cases h4 : numAt s 8 4 = n
 case neg => exact rpage_num size s n w hg h1 h2 h3 (numAt s 4 1) (numAt s 6 2) (numAt s 8 4) (numAt s 12 4) (numAt s 16 8) rfl rfl rfl rfl rfl h4
 have h5 : mayPg size (numAt s 4 1) (numAt s 6 2) (numAt s 8 4) (numAt s 12 4) (numAt s 16 8) (s.extract 24 s.size) = false := by
  rcases hm : mayPg size (numAt s 4 1) (numAt s 6 2) (numAt s 8 4) (numAt s 12 4) (numAt s 16 8) (s.extract 24 s.size) with _ | _
  ·rfl
  ·rw [blockOk, hm] at h
   simp [h1, h2, h3, h4] at h
 exact rpage_bad size s n w hg h1 h2 h3 (numAt s 4 1) (numAt s 6 2) (numAt s 8 4) (numAt s 12 4) (numAt s 16 8) rfl rfl rfl rfl rfl h4 h5
end Go.Proofs.YtmmjckokjmpfpaaGreat

namespace Go.Proofs.YtmmjckokjmpfpaaGreat
open Go.RowKit
open Go.Lib hiding intOf

structure Pg where
 kd : Int
 ct : Int
 pg : Nat
 lk : Nat
 tx : Nat
 bd : ByteArray
def Pg.cells (b : Pg) : List Value := [.int .i64 b.kd, .int .i64 b.ct, .int .u32 b.pg, .int .u32 b.lk, .int .u64 b.tx, .string b.bd]
def Pg.agg (b : Pg) : Value := .agg #[.int .i64 b.kd, .int .i64 b.ct, .int .u32 b.pg, .int .u32 b.lk, .int .u64 b.tx, .string b.bd]
def Pg.zero : Pg := ⟨0, 0, 0, 0, 0, ByteArray.empty⟩
theorem Pg.cells_len (b : Pg) : b.cells.length = 6 := rfl
def pgcs (l : List Pg) : List Value := rowsOf Pg.cells l
theorem pgcs_len {w : World} {B n : Nat} {A : Option Addr} {l : List Pg} (h : Reads w B 6 A n (pgcs l)) : l.length = n := rows_len (fun b => Pg.cells_len b) (by decide) h
theorem pgcs_append (l m : List Pg) : pgcs (l ++ m) = pgcs l ++ pgcs m := rowsOf_append l m
structure Lk where
 p : Pg
 e : Int
theorem cells7 {w : World} {p : Addr} {v0 v1 v2 v3 v4 v5 v6 : Value} (h : ∀ j u, ([v0, v1, v2, v3, v4, v5, v6] : List Value)[j]? = some u → w.cell? (p.add j) = some u) :
  w.cell? p = some v0 ∧ w.cell? ⟨p.block, p.off + 1, none⟩ = some v1 ∧ w.cell? ⟨p.block, p.off + 2, none⟩ = some v2 ∧ w.cell? ⟨p.block, p.off + 3, none⟩ = some v3 ∧ w.cell? ⟨p.block, p.off + 4, none⟩ = some v4 ∧ w.cell? ⟨p.block, p.off + 5, none⟩ = some v5 ∧ w.cell? ⟨p.block, p.off + 6, none⟩ = some v6 := by
 have e : ∀ k, 0 < k → p.add k = ⟨p.block, p.off + k, none⟩ := fun k hk => by unfold Addr.add; rw [if_neg (by omega)]
 refine ⟨h 0 _ rfl, ?_, ?_, ?_, ?_, ?_, ?_⟩
 ·rw [← e 1 (by decide)]; exact h 1 _ rfl
 ·rw [← e 2 (by decide)]; exact h 2 _ rfl
 ·rw [← e 3 (by decide)]; exact h 3 _ rfl
 ·rw [← e 4 (by decide)]; exact h 4 _ rfl
 ·rw [← e 5 (by decide)]; exact h 5 _ rfl
 ·rw [← e 6 (by decide)]; exact h 6 _ rfl
theorem cells6p {w : World} {p : Addr} {v0 v1 v2 v3 v4 v5 : Value} (h : ∀ j u, ([v0, v1, v2, v3, v4, v5] : List Value)[j]? = some u → w.cell? (p.add j) = some u) :
  w.cell? p = some v0 ∧ w.cell? ⟨p.block, p.off + 1, none⟩ = some v1 ∧ w.cell? ⟨p.block, p.off + 2, none⟩ = some v2 ∧ w.cell? ⟨p.block, p.off + 3, none⟩ = some v3 ∧ w.cell? ⟨p.block, p.off + 4, none⟩ = some v4 ∧ w.cell? ⟨p.block, p.off + 5, none⟩ = some v5 := by
 have e : ∀ k, 0 < k → p.add k = ⟨p.block, p.off + k, none⟩ := fun k hk => by unfold Addr.add; rw [if_neg (by omega)]
 refine ⟨h 0 _ rfl, ?_, ?_, ?_, ?_, ?_⟩
 ·rw [← e 1 (by decide)]; exact h 1 _ rfl
 ·rw [← e 2 (by decide)]; exact h 2 _ rfl
 ·rw [← e 3 (by decide)]; exact h 3 _ rfl
 ·rw [← e 4 (by decide)]; exact h 4 _ rfl
 ·rw [← e 5 (by decide)]; exact h 5 _ rfl
def PgAt (w : World) (p : Addr) (b : Pg) : Prop := w.cell? p = some (.int .i64 b.kd) ∧ w.cell? ⟨p.block, p.off + 1, none⟩ = some (.int .i64 b.ct) ∧ w.cell? ⟨p.block, p.off + 2, none⟩ = some (.int .u32 b.pg) ∧ w.cell? ⟨p.block, p.off + 3, none⟩ = some (.int .u32 b.lk) ∧ w.cell? ⟨p.block, p.off + 4, none⟩ = some (.int .u64 b.tx) ∧ w.cell? ⟨p.block, p.off + 5, none⟩ = some (.string b.bd)
theorem page_at {w : World} {B n i : Nat} {A : Option Addr} {l : List Pg} (h : Reads w B 6 A n (pgcs l)) (hi : i < n) :
  ∃ ad x, A = some ad ∧ (ad.add (i * 6)).block < B ∧ l[i]? = some x ∧ PgAt w (ad.add (i * 6)) x := by
 obtain ⟨ad, x, hA, hb, hx, hc⟩ := row_at (fun b => Pg.cells_len b) (by decide) h hi
 exact ⟨ad, x, hA, by rw [block_add]; exact hb, hx, cells6p hc⟩
def blkOf (z : Nat) (s : ByteArray) (n : Nat) : ByteArray := s.extract (n * z) (n * z + z)
def readAt (size : Int) (s : ByteArray) (n : Nat) : Option Pg :=
 if goodSize size && (decide (n < s.size / size.toNat) && blockOk size n (blkOf size.toNat s n)) then
  some ⟨numAt (blkOf size.toNat s n) 4 1, numAt (blkOf size.toNat s n) 6 2, numAt (blkOf size.toNat s n) 8 4, numAt (blkOf size.toNat s n) 12 4, numAt (blkOf size.toNat s n) 16 8, (blkOf size.toNat s n).extract 24 (blkOf size.toNat s n).size⟩
 else none
theorem readAt_some {size : Int} {s : ByteArray} {n : Nat} {p : Pg} (h : readAt size s n = some p) : goodSize size = true ∧ n < s.size / size.toNat ∧ p.pg = n ∧ mayPg size p.kd p.ct p.pg p.lk p.tx p.bd = true := by
 unfold readAt at h
 split at h
 ·rename_i hc
  injection h with h
  subst h
  simp only [Bool.and_eq_true, decide_eq_true_eq] at hc
  obtain ⟨h1, h2, h3⟩ := hc
  simp only [blockOk, Bool.and_eq_true, decide_eq_true_eq] at h3
  obtain ⟨_, _, _, h4, h5⟩ := h3
  exact ⟨h1, h2, h4, h5⟩
 ·cases h
theorem readAt_bad {size : Int} {s : ByteArray} {n : Nat} (h : goodSize size = false) : readAt size s n = none := by unfold readAt; rw [h]; rfl
end Go.Proofs.YtmmjckokjmpfpaaGreat

