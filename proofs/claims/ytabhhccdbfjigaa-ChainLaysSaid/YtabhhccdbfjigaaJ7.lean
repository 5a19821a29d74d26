/-
  Texts that the main proof rests on, put together: FramePutP, FrameCatch, Shelf, StrClone, Order, PgWords. No statement is proved here.
-/
import Derived.Test.YtabhhccdbfjigaaJ6
import Derived.Deep.RegionHeld3
import Derived.Tactics2
import Derived.Defers
import Derived.Recover
import Derived.Laws.Pointers
import Derived.Shelf.Strconv.Clone
import Derived.Test.YtabhhccdbfjigaaProg
import Derived.Shelf.Strings.BuilderK
import Derived.Test.YtabhhccdbfjigaaJ1
import Derived.Deep.DrawnRows
import Derived.Laws.ResultCell
import Derived.Deep.WholeRow
namespace Go.Proofs.Ytabhhccdbfjigaa
open Go.RowKit
open Go.Lib
set_option linter.unusedVariables false
set_option linter.unusedSimpArgs false
attribute [local go_sem ↓] Go.wp_at_zero Go.wp_at_succ

theorem fput_no (size kd ct : Int) (pg lk tx : Nat) (bd : ByteArray) (w : World) (h : mayPg size kd ct pg lk tx bd = false) :
    Calls Try.prog 27 #[.int .i64 size, .agg #[.int .i64 kd, .int .i64 ct, .int .u32 pg, .int .u32 lk, .int .u64 tx, .string bd]] w fun e w' => e = .returned (.tuple #[.string ⟨#[]⟩, .int .i64 2]) ∧ Below w.heap.size w w' := by
  have b0 : Blk (w.alloc (.cells #[.int .i64 kd, .int .i64 ct, .int .u32 pg, .int .u32 lk, .int .u64 tx, .string bd] 40)) w.heap.size 40 #[.int .i64 kd, .int .i64 ct, .int .u32 pg, .int .u32 lk, .int .u64 tx, .string bd] := Blk.new _ _ _
  have HB := Lib.hid (show Below w.heap.size w (w.alloc (.cells #[.int .i64 kd, .int .i64 ct, .int .u32 pg, .int .u32 lk, .int .u64 tx, .string bd] 40)) from (Below.refl _ _).alloc (Nat.le_refl _) _)
  have c0 := b0.cell 0
  have c1 := b0.cell 1
  have c2 := b0.cell 2
  have c3 := b0.cell 3
  have c4 := b0.cell 4
  have c5 := b0.cell 5
  simp at c0 c1 c2 c3 c4 c5
  clear b0
  go_enter Try.func27, Try.ntmps27
  go_wp2_with fail
  refine (valid_any _ _ _ _ _ _ _ _).mono ?_
  rw [h]
  rintro e w1 ⟨rfl, hb1⟩
  go_wp2_with fail
  go_ret2
  exact ⟨rfl, HB.out.trans (hb1.mono (HB.out).size)⟩

/-- What a page's checksum speaks of. -/
def restL (kd ct pg lk tx : Nat) (bd : ByteArray) : List UInt8 := headL kd ct pg lk tx ++ bd.data.toList
/-- A page's bytes. -/
def pageB (kd ct pg lk tx : Nat) (bd : ByteArray) : ByteArray := ⟨(leBytes 4 (crcM 0 (restL kd ct pg lk tx bd)) ++ restL kd ct pg lk tx bd).toArray⟩
theorem pageB_list (kd ct pg lk tx : Nat) (bd : ByteArray) : (pageB kd ct pg lk tx bd).data.toList = leBytes 4 (crcM 0 (restL kd ct pg lk tx bd)) ++ restL kd ct pg lk tx bd := by simp [pageB]
theorem restL_len (kd ct pg lk tx : Nat) (bd : ByteArray) : (restL kd ct pg lk tx bd).length = 20 + bd.size := by rw [restL, List.length_append, headL_len, size_list]
theorem pageB_size (kd ct pg lk tx : Nat) (bd : ByteArray) : (pageB kd ct pg lk tx bd).size = 24 + bd.size := by rw [← size_list, pageB_list, List.length_append, leB_len, restL_len]; omega

set_option maxHeartbeats 1600000 in
theorem fput_yes (size : Int) (kd ct pg lk tx : Nat) (bd : ByteArray) (w : World) (h : mayPg size kd ct pg lk tx bd = true) :
    Calls Try.prog 27 #[.int .i64 size, .agg #[.int .i64 kd, .int .i64 ct, .int .u32 pg, .int .u32 lk, .int .u64 tx, .string bd]] w fun e w' => e = .returned (.tuple #[.string (pageB kd ct pg lk tx bd), .int .i64 0]) ∧ Below w.heap.size w w' := by
  have hm := h
  simp only [mayPg, Bool.and_eq_true, decide_eq_true_eq] at hm
  obtain ⟨hg, m1, m2, m3, m4, m5, m6, m7, m8⟩ := hm
  obtain ⟨n, rfl, n1, n2, n3⟩ := good_nat hg
  have hbs : bd.size = n - 24 := by omega
  have b0 : Blk (w.alloc (.cells #[.int .i64 kd, .int .i64 ct, .int .u32 pg, .int .u32 lk, .int .u64 tx, .string bd] 40)) w.heap.size 40 #[.int .i64 kd, .int .i64 ct, .int .u32 pg, .int .u32 lk, .int .u64 tx, .string bd] := Blk.new _ _ _
  have hb0 := (show Below w.heap.size w (w.alloc (.cells #[.int .i64 kd, .int .i64 ct, .int .u32 pg, .int .u32 lk, .int .u64 tx, .string bd] 40)) from (Below.refl _ _).alloc (Nat.le_refl _) _)
  have hlt : w.heap.size < (w.alloc (.cells #[.int .i64 kd, .int .i64 ct, .int .u32 pg, .int .u32 lk, .int .u64 tx, .string bd] 40)).heap.size := by simp
  have HV := fun w => valid_any n kd ct pg lk tx bd w
  rw [h] at HV
  have HH := fun w => header_any kd ct pg lk tx bd w (by omega) (by omega) (by omega) (by omega)
  obtain ⟨hd, hhd⟩ : ∃ hd : ByteArray, hd = ⟨(headL kd ct pg lk tx).toArray⟩ := ⟨_, rfl⟩
  rw [← hhd] at HH
  have hds : hd.size = 20 := by rw [← size_list, hhd]; simp [headL_len]
  obtain ⟨rs, hrs⟩ : ∃ rs : ByteArray, rs = hd ++ bd := ⟨_, rfl⟩
  have hrl : rs.data.toList = restL kd ct pg lk tx bd := by rw [hrs, ByteArray.data_append, Array.toList_append, hhd, restL]
  have hrz : rs.size = n - 4 := by rw [hrs, ByteArray.size_append, hds, hbs]; omega
  have HO := fun w => of_any rs w (by rw [hrz]; unfold maxLen; omega)
  rw [hrl] at HO
  have hcr := crcM_lt 0 (restL kd ct pg lk tx bd)
  obtain ⟨cr, hcr2⟩ : ∃ cr, cr = crcM 0 (restL kd ct pg lk tx bd) := ⟨_, rfl⟩
  rw [← hcr2] at HO hcr
  have hw8 := u64_nat cr (by omega)
  have hpb : pageB kd ct pg lk tx bd = (⟨(leBytes 4 cr).toArray⟩ : ByteArray) ++ rs := by
    apply bytes_ext
    rw [pageB_list, ByteArray.data_append, Array.toList_append, hrl, hcr2]
  rw [hpb]
  have cat1 : ¬ (9223372036854775807 < hd.size + bd.size) := by omega
  have cat2 : ¬ (9223372036854775807 < (⟨(leBytes 4 cr).toArray⟩ : ByteArray).size + rs.size) := by
    have : (⟨(leBytes 4 cr).toArray⟩ : ByteArray).size = 4 := by rw [← size_list]; simp [leB_len]
    omega
  have B0 := Lib.hid b0
  have HB0 := Lib.hid hb0
  have HLT := Lib.hid hlt
  have HRS := Lib.hid hrs
  have c0 := b0.cell 0
  have c1 := b0.cell 1
  have c2 := b0.cell 2
  have c3 := b0.cell 3
  have c4 := b0.cell 4
  have c5 := b0.cell 5
  simp at c0 c1 c2 c3 c4 c5
  clear b0 hb0 hlt hrs hpb hrl hhd hcr2 h m1 m2 m3 m4 m5 m6 m7 m8 hg n1 n2 n3 hbs hds hrz hcr
  go_enter Try.func27, Try.ntmps27
  go_wp2_with fail
  refine (HV _).mono ?_
  rintro e w1 ⟨rfl, hb1⟩
  replace B0 := Lib.hid (B0.out.below hb1 HLT.out)
  replace HB0 := Lib.hid (HB0.out.trans (hb1.mono HB0.out.size))
  replace HLT := Lib.hid (Nat.lt_of_lt_of_le HLT.out hb1.size)
  clear c0 c1 c2 c3 c4 c5 hb1
  replace B0 := Lib.hid (B0.out.drew)
  replace HB0 := Lib.hid (HB0.out.drew)
  replace HLT := Lib.hid (show w.heap.size < w1.drew.heap.size from HLT.out)
  go_wp2_with fail
  go_region_held3 (fun w' => w'.cell? ⟨w.heap.size, 0, none⟩ = some (.int .i64 kd) ∧ w'.cell? ⟨w.heap.size, 1, none⟩ = some (.int .i64 ct) ∧ w'.cell? ⟨w.heap.size, 2, none⟩ = some (.int .u32 pg) ∧ w'.cell? ⟨w.heap.size, 3, none⟩ = some (.int .u32 lk) ∧ w'.cell? ⟨w.heap.size, 4, none⟩ = some (.int .u64 tx) ∧ w'.cell? ⟨w.heap.size, 5, none⟩ = some (.string bd))
    (exact ⟨B0.out.cell 0, B0.out.cell 1, B0.out.cell 2, B0.out.cell 3, B0.out.cell 4, B0.out.cell 5⟩)
    (first
    | (go_at_call 63
       with_reducible refine (HH _).mono ?_
       rintro e w2 ⟨rfl, hb2⟩
       replace B0 := Lib.hid (B0.out.below hb2 HLT.out)
       replace HB0 := Lib.hid (HB0.out.trans (hb2.mono HB0.out.size))
       replace HLT := Lib.hid (Nat.lt_of_lt_of_le HLT.out hb2.size)
       clear hb2))
  all_goals (try rw [← HRS.out])
  go_wp2_with fail
  refine (HO _).mono ?_
  rintro e w3 ⟨rfl, hb3⟩
  replace HB0 := Lib.hid (HB0.out.trans (hb3.mono HB0.out.size))
  clear hb3
  go_wp2_with fail
  refine (put_reads none 0 0 cr 4 [] _ (reads_nil _) (by omega) (by omega) (by omega)).mono ?_
  rintro e w4 ⟨A4, c4_, rfl, hr4, hb4⟩
  rw [List.nil_append] at hr4
  have hcv := run_string_reads w4 60 9 5 c4_ Try.underlying60 Try.underlying5 Try.underlying9 hr4
  clear hr4
  replace HB0 := Lib.hid (HB0.out.trans (hb4.mono HB0.out.size))
  clear hb4
  go_wp2_with fail
  go_ret2
  exact ⟨rfl, HB0.out⟩
end Go.Proofs.Ytabhhccdbfjigaa
namespace Go.Proofs.Ytabhhccdbfjigaa
open Go.RowKit
open Go.Lib
set_option linter.unusedVariables false
set_option linter.unusedSimpArgs false

theorem wrong_is (W : World) (v : Value) : (Instr.typeAssert (.iface 134 v) 20 134 true).run Try.prog W = .ok (.tuple #[v, .bool true]) W := by kernel_rfl
theorem catch_wrong (p : Addr) (x n : Int) (older : List PanicEntry) (w : World) (hc : w.cell? p = some (.int .i64 x)) (hz : w.frozen? p = false) :
    CallsD Try.prog 102 #[.pointer (some p)] (.panicking ({ v := .iface 134 (.int .i64 n), recovered := false } :: older)) w fun e u' w' =>
      e = .returned (.tuple #[]) ∧ u' = .panicking ({ v := .iface 134 (.int .i64 n), recovered := true } :: older) ∧ w' = w.setCell p (.int .i64 n) := by
  refine callsD_of_wpS Try.func102 rfl fun c₀ cs hu => ?_
  apply wpS_seq
  apply wpS_region
  simp [wpOpsS, go_sem, recoverD, hu, Try.ntmps102, Exit.thenS]
  refine wpS_of_wp ?_
  have hwr := wrong_is
  rw [show (#[Value.pointer (some p)] ++ (Array.replicate 10 undef).setIfInBounds 3 (Value.iface 134 (Value.int IntKind.i64 n))) = #[.pointer (some p), undef, undef, undef, Value.iface 134 (Value.int IntKind.i64 n), undef, undef, undef, undef, undef, undef] from rfl]
  go_wp2
  simp [bodyPostS, results, Try.results102]
theorem catch_idle (p : Addr) (w : World) :
    CallsD Try.prog 102 #[.pointer (some p)] .returning w fun e u' w' => e = .returned (.tuple #[]) ∧ u' = .returning ∧ w' = w := by
  refine callsD_of_wpS Try.func102 rfl fun c₀ cs hu => ?_
  apply wpS_seq
  apply wpS_region
  simp [wpOpsS, go_sem, recoverD, hu, Try.ntmps102, Exit.thenS]
  refine wpS_of_wp ?_
  rw [show (#[Value.pointer (some p)] ++ (Array.replicate 10 undef).setIfInBounds 3 Value.nilIface) = #[.pointer (some p), undef, undef, undef, Value.nilIface, undef, undef, undef, undef, undef, undef] from rfl]
  go_wp2
  cases c₀
  simp_all [bodyPostS, results, Try.results102]
end Go.Proofs.Ytabhhccdbfjigaa
namespace Go.Proofs
open Go.Shelf
def Try.laysM316_ren : Go.Shelf.Ren := ⟨fun | 316 => 92 | n => n, fun | 9 => 9 | 3 => 3 | 4 => 4 | 37 => 60 | 0 => 0 | 127 => 106 | 5 => 5 | n => n, fun | n => n⟩
theorem Try.laysM316 : Go.Proofs.LaysM.n316 Try.prog Try.laysM316_ren := {
  mixed := by kernel_rfl
  f316 := Try.func92.trans (congrArg some (by kernel_rfl))
  t0 := Try.underlying0
  a0 := Try.isAgg0
  z0 := Try.sizeOf0
  v0 := Try.zeroValue0
  t3 := Try.underlying3
  a3 := Try.isAgg3
  z3 := Try.sizeOf3
  v3 := Try.zeroValue3
  t4 := Try.underlying4
  a4 := Try.isAgg4
  z4 := Try.sizeOf4
  v4 := Try.zeroValue4
  t9 := Try.underlying9
  a9 := Try.isAgg9
  z9 := Try.sizeOf9
  v9 := Try.zeroValue9
  t37 := Try.underlying60
  a37 := Try.isAgg60
  z37 := Try.sizeOf60
  v37 := Try.zeroValue60
  t127 := Try.underlying106
  a127 := Try.isAgg106
  z127 := Try.sizeOf106
  v127 := Try.zeroValue106
  t5 := Try.underlying5
  a5 := Try.isAgg5
  z5 := Try.sizeOf5
  v5 := Try.zeroValue5
  i0 := by kernel_rfl
  i3 := by kernel_rfl
  i4 := by kernel_rfl
  i5 := by kernel_rfl
  i9 := by kernel_rfl
  i37 := by kernel_rfl
  i127 := by kernel_rfl }
open Go.RowKit in
theorem Try.stringslite_Clone (s : ByteArray) (w : World) (hlim : s.size ≤ 281474976710656) :
    Calls Try.prog 92 #[.string s] w fun e w' => e = .returned (.string s) ∧ Below w.heap.size w w' := Any.stringslite_Clone Try.laysM316 s w hlim
end Go.Proofs
namespace Go.Proofs.Ytabhhccdbfjigaa
open Go.RowKit
set_option linter.unusedVariables false
set_option linter.unusedSimpArgs false

theorem sclone_any (s : ByteArray) (w : World) (hs : s.size ≤ 281474976710656) :
    Calls Try.prog 68 #[.string s] w fun e w' => e = .returned (.string s) ∧ Below w.heap.size w w' := by
  go_enter Try.func68, Try.ntmps68
  go_wp2_with (go_at_call 92; refine (Try.stringslite_Clone _ _ hs).mono ?_; rintro e w' ⟨rfl, hb⟩)
  go_ret
  exact ⟨rfl, hb⟩
end Go.Proofs.Ytabhhccdbfjigaa
namespace Go.Proofs.Ytabhhccdbfjigaa
open Go.RowKit
open Go.Lib
set_option linter.unusedVariables false
set_option linter.unusedSimpArgs false
attribute [local go_sem ↓] Go.wp_at_zero Go.wp_at_succ

theorem wpAnyH_mono {P : Program} {md : Region.Mode} {ops : Array Oper} {Q : Exit → Act → World → Prop} {S S' : World → Prop} (hS : ∀ w, S' w → S w) :
    ∀ (fuel : Nat) (listed : Array Bool) (a : Act) (w : World), wpAnyH P md ops Q S' fuel listed a w → wpAnyH P md ops Q S fuel listed a w
  | 0, _, _, _, h => h
  | fuel + 1, _, _, _, h => ⟨h.1, fun i hi => wpOp_mono (fun a' w' h' => ⟨hS _ h'.1, wpAnyH_mono hS fuel _ a' w' h'.2⟩) (h.2 i hi)⟩

theorem wpAnyH_takeL {P : Program} {md : Region.Mode} {l : List Oper} {Q : Exit → Act → World → Prop} {S : World → Prop} {i : Nat} {oi : Oper} {v : Value} {fuel : Nat} {listed : Array Bool} {a : Act} {w : World} (hi : l[i]? = some oi)
    (hs : Region.noSelect l.toArray = true) (hf : Region.free md l.toArray listed i = true) (hr : (Region.ready md l.toArray listed).contains i = true)
    (hQ : ∀ c a w, Q (.panic c) (a.put oi.dst v) w → Q (.panic c) a w) (hy : YieldsIf P l.toArray S oi v a) (hS : S w)
    (h : wpAnyH P md l.toArray Q S fuel (listed.setIfInBounds i true) (a.put oi.dst v) w) : wpAnyH P md l.toArray Q S (fuel + 1) listed a w :=
  wpAnyH_take (by simpa using hi) hs hf hr hQ hy hS h
theorem AllReadyH.consL {P : Program} {md : Region.Mode} {l : List Oper} {Q : Exit → Act → World → Prop} {S : World → Prop} {fuel : Nat} {listed : Array Bool} {a : Act} {w : World} {i : Nat} {o : Oper} {rs : List Nat} (ho : l[i]? = some o)
    (h : ∀ K' : Act → World → Prop, Shut (∀ a w, S w → (S w → wpAnyH P md l.toArray Q S fuel (listed.setIfInBounds i true) a w) → K' a w) → if Region.wanted o (yielded l.toArray a.tmps) = true then Oper.wp P o a w K' Q else K' (a.put o.dst undef) w)
    (hs : AllReadyH P md l.toArray Q S fuel listed a w rs) : AllReadyH P md l.toArray Q S fuel listed a w (i :: rs) :=
  AllReadyH.cons (by simpa using ho) h hs

end Go.Proofs.Ytabhhccdbfjigaa
namespace Go.Proofs.Ytabhhccdbfjigaa
open Go.RowKit
open Go.Lib
set_option linter.unusedVariables false
set_option linter.unusedSimpArgs false

theorem pg_cells {w : World} {g : Nat} {a0 a1 a2 a3 a4 a5 : Value} (h : Blk w g 40 #[a0, a1, a2, a3, a4, a5]) : w.cell? ⟨g, 0, none⟩ = some a0 ∧ w.cell? ⟨g, 1, none⟩ = some a1 ∧ w.cell? ⟨g, 2, none⟩ = some a2 ∧ w.cell? ⟨g, 3, none⟩ = some a3 ∧ w.cell? ⟨g, 4, none⟩ = some a4 ∧ w.cell? ⟨g, 5, none⟩ = some a5 := ⟨h.cell 0, h.cell 1, h.cell 2, h.cell 3, h.cell 4, h.cell 5⟩
theorem six_far {w : World} {g b : Nat} {t : TypeId} {cs : Array Value} {a0 a1 a2 a3 a4 a5 : Value} (h : Blk w g t cs) (hne : g ≠ b) : Blk ((((((w.setCell ⟨b, 0, none⟩ a0).setCell ⟨b, 1, none⟩ a1).setCell ⟨b, 2, none⟩ a2).setCell ⟨b, 3, none⟩ a3).setCell ⟨b, 4, none⟩ a4).setCell ⟨b, 5, none⟩ a5) g t cs :=
  (((((h.far hne a0).far hne a1).far hne a2).far hne a3).far hne a4).far hne a5
theorem six_at {w : World} {b : Nat} {t : TypeId} {z0 z1 z2 z3 z4 z5 a0 a1 a2 a3 a4 a5 : Value} (h : Blk w b t #[z0, z1, z2, z3, z4, z5]) : Blk ((((((w.setCell ⟨b, 0, none⟩ a0).setCell ⟨b, 1, none⟩ a1).setCell ⟨b, 2, none⟩ a2).setCell ⟨b, 3, none⟩ a3).setCell ⟨b, 4, none⟩ a4).setCell ⟨b, 5, none⟩ a5) b t #[a0, a1, a2, a3, a4, a5] :=
  (((((h.set_ 0 a0).set_ 1 a1).set_ 2 a2).set_ 3 a3).set_ 4 a4).set_ 5 a5
theorem six_below {w0 w : World} {B b : Nat} {a0 a1 a2 a3 a4 a5 : Value} (h : Below B w0 w) (hb : B ≤ b) : Below B w0 ((((((w.setCell ⟨b, 0, none⟩ a0).setCell ⟨b, 1, none⟩ a1).setCell ⟨b, 2, none⟩ a2).setCell ⟨b, 3, none⟩ a3).setCell ⟨b, 4, none⟩ a4).setCell ⟨b, 5, none⟩ a5) :=
  (((((h.setCell hb a0).setCell hb a1).setCell hb a2).setCell hb a3).setCell hb a4).setCell hb a5
theorem Blk.setRow_far {w : World} {g b : Nat} {t : TypeId} {cs : Array Value} (h : Blk w g t cs) (hne : g ≠ b) (ds : Array Value) : Blk (w.setRow b ds) g t cs := (setRow_other w b g ds hne).trans h
theorem lt_alloc {n : Nat} {w : World} (h : n < w.heap.size) (o : Obj) : n < (w.alloc o).heap.size := by simp; omega
theorem new_below {w w2 : World} {cs : Array Value} {t : TypeId} (hb : Below (w.alloc (.cells cs t)).heap.size (w.alloc (.cells cs t)) w2) : Blk w2 w.heap.size t cs := (Blk.new w t cs).below hb (by simp)

theorem infoPg : (Try.prog.info? 40).map (fun i => (i.zero, i.size)) = some (some (.agg #[.int .i64 0, .int .i64 0, .int .u32 0, .int .u32 0, .int .u64 0, .string ByteArray.empty]), 6) := by kernel_rfl

theorem read_row {fn : Func} {p u : Tmp} {ty : TypeId} (h : fn.results = #[.cell p ty, .tmp u]) (tmps : Array Value) (P : Program) (w : World) (g : Nat) (cs : Array Value)
    (hp : tmps.getD p undef = .pointer (some ⟨g, 0, none⟩)) (hl : (loadVar ty ⟨g, 0, none⟩).run P w = .ok (.agg cs) w) :
    (results fn tmps).run P w = .ok (.tuple #[.agg cs, tmps.getD u undef]) w := by
  rw [results_cell_tmp h, hp]
  simp [asAddr, hl]
theorem load_page {w : World} {g : Nat} {a0 a1 a2 a3 a4 a5 : Value} (h : Blk w g 40 #[a0, a1, a2, a3, a4, a5]) : (loadVar 40 ⟨g, 0, none⟩).run Try.prog w = .ok (.agg #[a0, a1, a2, a3, a4, a5]) w := by
  obtain ⟨hz, hi⟩ := zero_of_info infoPg
  exact run_loadVar_row w g 40 40 #[a0, a1, a2, a3, a4, a5] (0, 0) _ h Try.underlying40 rfl hi

end Go.Proofs.Ytabhhccdbfjigaa
